/-
  LebFresh, the upto form: what is handed in stays, the room behind it too; what is answered is new memory. The condition: what comes in is of bulk at most 1048576.
-/
import Derived.Test.YtheiffjnddhcoaaFrameW
import Derived.Test.YtheiffjnddhcoaaFreshB
import Derived.Test.YtheiffjnddhcoaaGetList
import Derived.Test.YtheiffjnddhcoaaGetRow
import Derived.Test.YtheiffjnddhcoaaMathG
import Derived.Test.YtheiffjnddhcoaaSameW
import Derived.Deep.Light
namespace Go.Proofs.Ytheiffjnddhcoaa.lebFresh
open Go.ChangeShapes Go.WideShapes Go.ChangeAt Go.RowKit
open Go.ChangeMaps (open_string shut_string)
set_option linter.unusedVariables false

theorem set_word {w : World} {base g c : Nat} {l : List Nat} (h : OwnW w base (.slice (some ⟨g, 0, none⟩) l.length c) l) (j : Nat) {x : Nat} (hx : Mt.B64 x) :
    OwnW (w.setCell ⟨g, j, none⟩ (.int .u64 (x : Nat))) base (.slice (some ⟨g, 0, none⟩) (l.set j x).length c) (l.set j x) := by
  obtain ⟨h1, h2⟩ := h.2.stored j (.int .u64 (x : Nat))
  refine ⟨fun y hy => ?_, ?_⟩
  · rcases List.mem_or_eq_of_mem_set hy with h3 | rfl
    · exact h.1 y h3
    · exact hx
  · rw [List.length_set]
    have e : (l.set j x).map u64v = (l.map u64v).set j (.int .u64 (x : Nat)) := by rw [List.map_set]; rfl
    rw [e]
    exact h1
theorem at_word {w : World} {base c n : Nat} {A : Option Addr} {l : List Nat} (h : OwnW w base (.slice A n c) l) {k : Nat} (hk : k < l.length) :
    ∃ g x, A = some ⟨g, 0, none⟩ ∧ base ≤ g ∧ n = l.length ∧ w.cell? ⟨g, k, none⟩ = some (.int .u64 (x : Nat)) ∧ w.frozen? ⟨g, k, none⟩ = false := by
  rcases h.2.2 with ⟨e, h0⟩ | ⟨g, cap, cur, e, hb, _⟩
  · omega
  · injection e with e1 e2 e3
    subst e1 e2
    refine ⟨g, l[k], rfl, hb, rfl, ?_, h.2.frozenAt k⟩
    rw [h.2.cellAt k (by omega), List.getElem?_map, List.getElem?_eq_getElem hk]; rfl

set_option maxHeartbeats 4000000 in
set_option maxRecDepth 100000 in
theorem walk (w : World) (v0 : Value) (l0 : List Nat) (h0 : Bv w w.heap.size v0 l0) (v1 : Value) (l1 : List Nat) (h1 : Wv w w.heap.size v1 l1) (hsz : l0.length + l1.length ≤ 1048576) :
    Calls Try.prog 11 #[v0, v1] w (IsBool true w) := by
  have hpr : (putRow l0).length ≤ 1048600 := by have := Mt.put_len_le l0.length; rw [putRow_len]; omega
  have hpl := putList_len l1
  have hG := getRow_put [] l0 [] (by unfold Mt.B64; omega)
  have hL := getList_put [] l1 (by unfold Mt.B64; omega) h1.lt_
  simp only [List.nil_append, List.append_nil, List.length_nil, Nat.zero_add] at hG hL
  have HG : Hid (Mt.getRow (putRow l0) 0 ((l0.length : Nat) : Int) = (l0, (putRow l0).length, 0)) := hG
  have HL : Hid (Mt.getList (putList l1) 0 ((l1.length : Nat) : Int) = (l1, (putList l1).length, 0)) := hL
  obtain ⟨P, hP⟩ : ∃ P, putRow l0 = P := ⟨_, rfl⟩
  obtain ⟨Q, hQ⟩ : ∃ Q, putList l1 = Q := ⟨_, rfl⟩
  have HPe := Lib.hid hP
  have HQe := Lib.hid hQ
  rw [hP] at HG hpr
  rw [hQ] at HL hpl
  have HR := Lib.hid h0
  have HW := Lib.hid h1
  obtain ⟨A0, c0, rfl, _, _, _, _⟩ := h0
  obtain ⟨A1, c1, rfl, _, _, _, _⟩ := h1
  have HB := Lib.hid (Below.refl w.heap.size w)
  have z0 : w.heap.size ≤ w.heap.size := Nat.le_refl _
  clear hG hL hP hQ
  go_enter Try.func11, Try.ntmps11
  have HC := Lib.hid (wide_any _ l0 w.heap.size w (Nat.le_refl _) HR.out (by omega))
  go_wp2_with fail
  ((with_reducible refine (HC.out).mono ?_); rintro e' w1 ⟨g1, rfl, ho, hb⟩)
  clear HC
  have HV1 := Lib.hid (ho.form_)
  clear ho
  have z1 : w.heap.size ≤ w1.heap.size := hb.size
  have HRn := Lib.hid (HR.out.below_ hb (by omega))
  have HWn := Lib.hid (HW.out.below_ hb (by omega))
  have HBn := Lib.hid (HB.out.trans (hb.mono (by omega)))
  clear HB HR HW
  have HR := HRn
  clear HRn
  have HW := HWn
  clear HWn
  have HB := HBn
  clear HBn hb
  have ht := HV1.out.take_ (k := l0.length) (by simp)
  rw [List.take_left] at ht
  have HC := Lib.hid (putRow_any _ l0 w1.heap.size w1 (Nat.le_refl _) ht (by omega))
  rw [HPe.out] at HC
  clear ht
  go_wp2_with fail
  ((with_reducible refine (HC.out).mono ?_); rintro e' w2 ⟨g2, rfl, ho, hb⟩)
  clear HC
  have HC := Lib.hid (spoil_any w1.heap.size _ P w2 ho)
  clear ho
  have z2 : w1.heap.size ≤ w2.heap.size := hb.size
  have HRn := Lib.hid (HR.out.below_ hb (by omega))
  have HWn := Lib.hid (HW.out.below_ hb (by omega))
  have HV1n := Lib.hid (HV1.out.below_ hb (by omega))
  have HBn := Lib.hid (HB.out.trans (hb.mono (by omega)))
  clear HB HR HW HV1
  have HR := HRn
  clear HRn
  have HW := HWn
  clear HWn
  have HV1 := HV1n
  clear HV1n
  have HB := HBn
  clear HBn hb
  go_wp2_with fail
  ((with_reducible refine (HC.out).mono ?_); rintro e' w3 ⟨⟨u3, rfl⟩, hb⟩)
  clear HC
  have z3 : w2.heap.size ≤ w3.heap.size := hb.size
  have HRn := Lib.hid (HR.out.below_ hb (by omega))
  have HWn := Lib.hid (HW.out.below_ hb (by omega))
  have HV1n := Lib.hid (HV1.out.below_ hb (by omega))
  have HBn := Lib.hid (HB.out.trans (hb.mono (by omega)))
  clear HB HR HW HV1
  have HR := HRn
  clear HRn
  have HW := HWn
  clear HWn
  have HV1 := HV1n
  clear HV1n
  have HB := HBn
  clear HBn hb
  have HC := Lib.hid (rputRow_any _ l0 w.heap.size w3 (by omega) HR.out (by omega))
  rw [HPe.out] at HC
  go_wp2_with fail
  ((with_reducible refine (HC.out).mono ?_); rintro e' w4 ⟨A4, c4, rfl, ho, hb⟩)
  clear HC
  have HP4 := Lib.hid ho.form_
  clear ho
  have z4 : w3.heap.size ≤ w4.heap.size := hb.size
  have HRn := Lib.hid (HR.out.below_ hb (by omega))
  have HWn := Lib.hid (HW.out.below_ hb (by omega))
  have HV1n := Lib.hid (HV1.out.below_ hb (by omega))
  have HBn := Lib.hid (HB.out.trans (hb.mono (by omega)))
  clear HB HR HW HV1
  have HR := HRn
  clear HRn
  have HW := HWn
  clear HWn
  have HV1 := HV1n
  clear HV1n
  have HB := HBn
  clear HBn hb
  have HC := Lib.hid (wide_any _ P w4.heap.size w4 (Nat.le_refl _) HP4.out (by omega))
  go_wp2_with fail
  ((with_reducible refine (HC.out).mono ?_); rintro e' w5 ⟨g5, rfl, ho, hb⟩)
  clear HC
  have HV5 := Lib.hid (ho.form_)
  clear ho
  have z5 : w4.heap.size ≤ w5.heap.size := hb.size
  have HRn := Lib.hid (HR.out.below_ hb (by omega))
  have HWn := Lib.hid (HW.out.below_ hb (by omega))
  have HV1n := Lib.hid (HV1.out.below_ hb (by omega))
  have HP4n := Lib.hid (HP4.out.below_ hb (by omega))
  have HBn := Lib.hid (HB.out.trans (hb.mono (by omega)))
  clear HB HR HW HV1 HP4
  have HR := HRn
  clear HRn
  have HW := HWn
  clear HWn
  have HV1 := HV1n
  clear HV1n
  have HP4 := HP4n
  clear HP4n
  have HB := HBn
  clear HBn hb
  have ht := HV5.out.take_ (k := P.length) (by simp)
  rw [List.take_left] at ht
  have HC := Lib.hid (getRow_any _ P w5.heap.size 0 ((l0.length : Nat) : Int) w5 (Nat.le_refl _) ht (by omega) (by omega))
  clear ht
  go_wp2_with fail
  ((with_reducible refine (HC.out).mono ?_); rintro e' w6 ⟨A6, he, ho, hb⟩)
  rw [HG.out] at he ho
  subst he
  clear HC
  have HC := Lib.hid (spoil_any w5.heap.size _ l0 w6 ho)
  clear ho
  have z6 : w5.heap.size ≤ w6.heap.size := hb.size
  have HRn := Lib.hid (HR.out.below_ hb (by omega))
  have HWn := Lib.hid (HW.out.below_ hb (by omega))
  have HV1n := Lib.hid (HV1.out.below_ hb (by omega))
  have HP4n := Lib.hid (HP4.out.below_ hb (by omega))
  have HV5n := Lib.hid (HV5.out.below_ hb (by omega))
  have HBn := Lib.hid (HB.out.trans (hb.mono (by omega)))
  clear HB HR HW HV1 HP4 HV5
  have HR := HRn
  clear HRn
  have HW := HWn
  clear HWn
  have HV1 := HV1n
  clear HV1n
  have HP4 := HP4n
  clear HP4n
  have HV5 := HV5n
  clear HV5n
  have HB := HBn
  clear HBn hb
  go_wp2_with fail
  ((with_reducible refine (HC.out).mono ?_); rintro e' w7 ⟨⟨u7, rfl⟩, hb⟩)
  clear HC
  have z7 : w6.heap.size ≤ w7.heap.size := hb.size
  have HRn := Lib.hid (HR.out.below_ hb (by omega))
  have HWn := Lib.hid (HW.out.below_ hb (by omega))
  have HV1n := Lib.hid (HV1.out.below_ hb (by omega))
  have HP4n := Lib.hid (HP4.out.below_ hb (by omega))
  have HV5n := Lib.hid (HV5.out.below_ hb (by omega))
  have HBn := Lib.hid (HB.out.trans (hb.mono (by omega)))
  clear HB HR HW HV1 HP4 HV5
  have HR := HRn
  clear HRn
  have HW := HWn
  clear HWn
  have HV1 := HV1n
  clear HV1n
  have HP4 := HP4n
  clear HP4n
  have HV5 := HV5n
  clear HV5n
  have HB := HBn
  clear HBn hb
  have HC := Lib.hid (copyWords_any _ l1 w.heap.size w7 HW.out (by omega))
  go_wp2_with fail
  ((with_reducible refine (HC.out).mono ?_); rintro e' w8 ⟨A8, c8, rfl, ho, hb⟩)
  clear HC
  have HO8 := Lib.hid ho.form_
  clear ho
  have z8 : w7.heap.size ≤ w8.heap.size := hb.size
  have HRn := Lib.hid (HR.out.below_ hb (by omega))
  have HWn := Lib.hid (HW.out.below_ hb (by omega))
  have HV1n := Lib.hid (HV1.out.below_ hb (by omega))
  have HP4n := Lib.hid (HP4.out.below_ hb (by omega))
  have HV5n := Lib.hid (HV5.out.below_ hb (by omega))
  have HBn := Lib.hid (HB.out.trans (hb.mono (by omega)))
  clear HB HR HW HV1 HP4 HV5
  have HR := HRn
  clear HRn
  have HW := HWn
  clear HWn
  have HV1 := HV1n
  clear HV1n
  have HP4 := HP4n
  clear HP4n
  have HV5 := HV5n
  clear HV5n
  have HB := HBn
  clear HBn hb
  have HC := Lib.hid (putList_any _ l1 w8.heap.size w8 (Nat.le_refl _) HO8.out (by omega))
  rw [HQe.out] at HC
  go_wp2_with fail
  ((with_reducible refine (HC.out).mono ?_); rintro e' w9 ⟨g9, rfl, ho, hb⟩)
  clear HC
  have HC9 := Lib.hid ho.form_
  clear ho
  have z9 : w8.heap.size ≤ w9.heap.size := hb.size
  have HRn := Lib.hid (HR.out.below_ hb (by omega))
  have HWn := Lib.hid (HW.out.below_ hb (by omega))
  have HV1n := Lib.hid (HV1.out.below_ hb (by omega))
  have HP4n := Lib.hid (HP4.out.below_ hb (by omega))
  have HV5n := Lib.hid (HV5.out.below_ hb (by omega))
  have HO8n := Lib.hid (HO8.out.below_ hb (by omega))
  have HBn := Lib.hid (HB.out.trans (hb.mono (by omega)))
  clear HB HR HW HV1 HP4 HV5 HO8
  have HR := HRn
  clear HRn
  have HW := HWn
  clear HWn
  have HV1 := HV1n
  clear HV1n
  have HP4 := HP4n
  clear HP4n
  have HV5 := HV5n
  clear HV5n
  have HO8 := HO8n
  clear HO8n
  have HB := HBn
  clear HBn hb
  have HC := Lib.hid (rputList_any _ l1 w.heap.size w9 (by omega) HW.out (by omega))
  rw [HQe.out] at HC
  go_wp2_with fail
  ((with_reducible refine (HC.out).mono ?_); rintro e' w10 ⟨A10, c10, rfl, ho, hb⟩)
  clear HC
  have HX := Lib.hid ho.form_
  clear ho
  have z10 : w9.heap.size ≤ w10.heap.size := hb.size
  have HRn := Lib.hid (HR.out.below_ hb (by omega))
  have HWn := Lib.hid (HW.out.below_ hb (by omega))
  have HV1n := Lib.hid (HV1.out.below_ hb (by omega))
  have HP4n := Lib.hid (HP4.out.below_ hb (by omega))
  have HV5n := Lib.hid (HV5.out.below_ hb (by omega))
  have HO8n := Lib.hid (HO8.out.below_ hb (by omega))
  have HC9n := Lib.hid (HC9.out.below_ hb (by omega))
  have HBn := Lib.hid (HB.out.trans (hb.mono (by omega)))
  clear HB HR HW HV1 HP4 HV5 HO8 HC9
  have HR := HRn
  clear HRn
  have HW := HWn
  clear HWn
  have HV1 := HV1n
  clear HV1n
  have HP4 := HP4n
  clear HP4n
  have HV5 := HV5n
  clear HV5n
  have HO8 := HO8n
  clear HO8n
  have HC9 := HC9n
  clear HC9n
  have HB := HBn
  clear HBn hb
  have HC := Lib.hid (getList_any _ Q w10.heap.size 0 ((l1.length : Nat) : Int) w10 (Nat.le_refl _) HX.out (by omega) (by omega))
  clear HX
  go_wp2_with fail
  ((with_reducible refine (HC.out).mono ?_); rintro e' w11 ⟨A11, c11, he, ho, hb⟩)
  rw [HL.out] at he ho
  subst he
  clear HC
  have HY := Lib.hid ho
  clear ho
  have z11 : w10.heap.size ≤ w11.heap.size := hb.size
  have HRn := Lib.hid (HR.out.below_ hb (by omega))
  have HWn := Lib.hid (HW.out.below_ hb (by omega))
  have HV1n := Lib.hid (HV1.out.below_ hb (by omega))
  have HP4n := Lib.hid (HP4.out.below_ hb (by omega))
  have HV5n := Lib.hid (HV5.out.below_ hb (by omega))
  have HO8n := Lib.hid (HO8.out.below_ hb (by omega))
  have HC9n := Lib.hid (HC9.out.below_ hb (by omega))
  have HBn := Lib.hid (HB.out.trans (hb.mono (by omega)))
  clear HB HR HW HV1 HP4 HV5 HO8 HC9
  have HR := HRn
  clear HRn
  have HW := HWn
  clear HWn
  have HV1 := HV1n
  clear HV1n
  have HP4 := HP4n
  clear HP4n
  have HV5 := HV5n
  clear HV5n
  have HO8 := HO8n
  clear HO8n
  have HC9 := HC9n
  clear HC9n
  have HB := HBn
  clear HBn hb
  go_wp2_with fail
  go_loopw [17] (fun i wr => ∃ (k : Nat) (y : List Nat), k ≤ l1.length ∧ i = .int .i64 k ∧ Hid (y.length = l1.length) ∧ Hid (OwnW wr w10.heap.size (.slice A11 l1.length c11) y) ∧ Hid (Below w10.heap.size w11 wr)) (fun i _ => l1.length - (intOf i).toNat)
  case atStart => exact ⟨0, l1, by omega, rfl, rfl, HY.out, Below.refl _ _⟩
  case round =>
    obtain ⟨k, y, hk, rfl, HLn, HO, HBL⟩ := hrel
    clear HY
    by_cases hlt : k < l1.length
    · have hky : k < y.length := by have := HLn.out; omega
      obtain ⟨g, x, rfl, hgb, hny, hcell, hfr⟩ := at_word HO.out hky
      have ho := HO.out
      rw [← HLn.out] at ho
      have hs := set_word ho k (x := 5) (by unfold Mt.B64; omega)
      rw [List.length_set, HLn.out] at hs
      have HS := Lib.hid hs
      clear hs ho HO hny HR HW HV1 HP4 HV5 HO8 HC9 HB
      go_wp2
      exact ⟨⟨k + 1, y.set k 5, by omega, by go_num, by unfold Hid; rw [List.length_set, HLn.out], HS.out, HBL.out.setCell hgb _⟩, by simp [intOf]; omega⟩
    · have hb := HBL.out
      clear HBL HO HLn
      have z12 : w11.heap.size ≤ wr.heap.size := hb.size
      have HRn := Lib.hid (HR.out.below_ hb (by omega))
      have HWn := Lib.hid (HW.out.below_ hb (by omega))
      have HV1n := Lib.hid (HV1.out.below_ hb (by omega))
      have HP4n := Lib.hid (HP4.out.below_ hb (by omega))
      have HV5n := Lib.hid (HV5.out.below_ hb (by omega))
      have HO8n := Lib.hid (HO8.out.below_ hb (by omega))
      have HC9n := Lib.hid (HC9.out.below_ hb (by omega))
      have HBn := Lib.hid (HB.out.trans (hb.mono (by omega)))
      clear HB HR HW HV1 HP4 HV5 HO8 HC9
      have HR := HRn
      clear HRn
      have HW := HWn
      clear HWn
      have HV1 := HV1n
      clear HV1n
      have HP4 := HP4n
      clear HP4n
      have HV5 := HV5n
      clear HV5n
      have HO8 := HO8n
      clear HO8n
      have HC9 := HC9n
      clear HC9n
      have HB := HBn
      clear HBn hb
      have HC := Lib.hid (left_any g1 l0 _ _ _ wr HV1.out HR.out)
      go_wp2_with fail
      ((with_reducible refine (HC.out).mono ?_); rintro e' w13 ⟨rfl, hb⟩)
      clear HC
      have z13 : wr.heap.size ≤ w13.heap.size := hb.size
      have HRn := Lib.hid (HR.out.below_ hb (by omega))
      have HWn := Lib.hid (HW.out.below_ hb (by omega))
      have HV1n := Lib.hid (HV1.out.below_ hb (by omega))
      have HP4n := Lib.hid (HP4.out.below_ hb (by omega))
      have HV5n := Lib.hid (HV5.out.below_ hb (by omega))
      have HO8n := Lib.hid (HO8.out.below_ hb (by omega))
      have HC9n := Lib.hid (HC9.out.below_ hb (by omega))
      have HBn := Lib.hid (HB.out.trans (hb.mono (by omega)))
      clear HB HR HW HV1 HP4 HV5 HO8 HC9
      have HR := HRn
      clear HRn
      have HW := HWn
      clear HWn
      have HV1 := HV1n
      clear HV1n
      have HP4 := HP4n
      clear HP4n
      have HV5 := HV5n
      clear HV5n
      have HO8 := HO8n
      clear HO8n
      have HC9 := HC9n
      clear HC9n
      have HB := HBn
      clear HBn hb
      have HC := Lib.hid (left_any g5 P _ _ _ w13 HV5.out HP4.out)
      go_wp2_with fail
      ((with_reducible refine (HC.out).mono ?_); rintro e' w14 ⟨rfl, hb⟩)
      clear HC
      have z14 : w13.heap.size ≤ w14.heap.size := hb.size
      have HRn := Lib.hid (HR.out.below_ hb (by omega))
      have HWn := Lib.hid (HW.out.below_ hb (by omega))
      have HV1n := Lib.hid (HV1.out.below_ hb (by omega))
      have HP4n := Lib.hid (HP4.out.below_ hb (by omega))
      have HV5n := Lib.hid (HV5.out.below_ hb (by omega))
      have HO8n := Lib.hid (HO8.out.below_ hb (by omega))
      have HC9n := Lib.hid (HC9.out.below_ hb (by omega))
      have HBn := Lib.hid (HB.out.trans (hb.mono (by omega)))
      clear HB HR HW HV1 HP4 HV5 HO8 HC9
      have HR := HRn
      clear HRn
      have HW := HWn
      clear HWn
      have HV1 := HV1n
      clear HV1n
      have HP4 := HP4n
      clear HP4n
      have HV5 := HV5n
      clear HV5n
      have HO8 := HO8n
      clear HO8n
      have HC9 := HC9n
      clear HC9n
      have HB := HBn
      clear HBn hb
      have HC := Lib.hid (words_wv _ _ _ _ _ _ w14 HO8.out HW.out)
      go_wp2_with fail
      ((with_reducible refine (HC.out).mono ?_); rintro e' w15 ⟨he, hb⟩)
      simp only [decide_true] at he
      subst he
      clear HC
      have z15 : w14.heap.size ≤ w15.heap.size := hb.size
      have HRn := Lib.hid (HR.out.below_ hb (by omega))
      have HWn := Lib.hid (HW.out.below_ hb (by omega))
      have HV1n := Lib.hid (HV1.out.below_ hb (by omega))
      have HP4n := Lib.hid (HP4.out.below_ hb (by omega))
      have HV5n := Lib.hid (HV5.out.below_ hb (by omega))
      have HO8n := Lib.hid (HO8.out.below_ hb (by omega))
      have HC9n := Lib.hid (HC9.out.below_ hb (by omega))
      have HBn := Lib.hid (HB.out.trans (hb.mono (by omega)))
      clear HB HR HW HV1 HP4 HV5 HO8 HC9
      have HR := HRn
      clear HRn
      have HW := HWn
      clear HWn
      have HV1 := HV1n
      clear HV1n
      have HP4 := HP4n
      clear HP4n
      have HV5 := HV5n
      clear HV5n
      have HO8 := HO8n
      clear HO8n
      have HC9 := HC9n
      clear HC9n
      have HB := HBn
      clear HBn hb
      have HC := Lib.hid (rputList_any _ l1 w.heap.size w15 (by omega) HW.out (by omega))
      rw [HQe.out] at HC
      go_wp2_with fail
      ((with_reducible refine (HC.out).mono ?_); rintro e' w16 ⟨A16, c16, rfl, ho, hb⟩)
      clear HC
      have HX := Lib.hid ho.form_
      clear ho
      have z16 : w15.heap.size ≤ w16.heap.size := hb.size
      have HRn := Lib.hid (HR.out.below_ hb (by omega))
      have HWn := Lib.hid (HW.out.below_ hb (by omega))
      have HV1n := Lib.hid (HV1.out.below_ hb (by omega))
      have HP4n := Lib.hid (HP4.out.below_ hb (by omega))
      have HV5n := Lib.hid (HV5.out.below_ hb (by omega))
      have HO8n := Lib.hid (HO8.out.below_ hb (by omega))
      have HC9n := Lib.hid (HC9.out.below_ hb (by omega))
      have HBn := Lib.hid (HB.out.trans (hb.mono (by omega)))
      clear HB HR HW HV1 HP4 HV5 HO8 HC9
      have HR := HRn
      clear HRn
      have HW := HWn
      clear HWn
      have HV1 := HV1n
      clear HV1n
      have HP4 := HP4n
      clear HP4n
      have HV5 := HV5n
      clear HV5n
      have HO8 := HO8n
      clear HO8n
      have HC9 := HC9n
      clear HC9n
      have HB := HBn
      clear HBn hb
      have HC := Lib.hid (same_bv _ _ _ _ _ _ w16 HC9.out HX.out)
      go_wp2_with fail
      ((with_reducible refine (HC.out).mono ?_); rintro e' w17 ⟨he, hb⟩)
      simp only [decide_true] at he
      subst he
      clear HC HX
      have z17 : w16.heap.size ≤ w17.heap.size := hb.size
      have HRn := Lib.hid (HR.out.below_ hb (by omega))
      have HWn := Lib.hid (HW.out.below_ hb (by omega))
      have HV1n := Lib.hid (HV1.out.below_ hb (by omega))
      have HP4n := Lib.hid (HP4.out.below_ hb (by omega))
      have HV5n := Lib.hid (HV5.out.below_ hb (by omega))
      have HO8n := Lib.hid (HO8.out.below_ hb (by omega))
      have HC9n := Lib.hid (HC9.out.below_ hb (by omega))
      have HBn := Lib.hid (HB.out.trans (hb.mono (by omega)))
      clear HB HR HW HV1 HP4 HV5 HO8 HC9
      have HR := HRn
      clear HRn
      have HW := HWn
      clear HWn
      have HV1 := HV1n
      clear HV1n
      have HP4 := HP4n
      clear HP4n
      have HV5 := HV5n
      clear HV5n
      have HO8 := HO8n
      clear HO8n
      have HC9 := HC9n
      clear HC9n
      have HB := HBn
      clear HBn hb
      have HC := Lib.hid (works_any w17)
      go_wp2_with fail
      ((with_reducible refine (HC.out).mono ?_); rintro e' w18 ⟨rfl, hb⟩)
      have HBf := HB.out.trans (hb.mono HB.out.size)
      clear HC hb HB HR HW HV1 HP4 HV5 HO8 HC9
      go_wp2
      go_ret
      exact ⟨rfl, HBf⟩

/-! ### From the walk to the row -/
set_option maxRecDepth 100000 in
theorem lifted (os : Os) (started : os.Started) (H : Type) (enc : TypeId × Value → H) (F : Stop.Interp) :
    ReturnsInHanded {} Try.checked os 11 .any ((Rows.OpenSpec.upto Rows.lebFreshSpec).pre6 enc Try.prog Try.f11 Rows.lebFreshUptoRow.domain false) (((Rows.OpenSpec.upto Rows.lebFreshSpec).at F).post enc Try.prog Try.f11 false true false false) := by
  refine returnsInHanded_of_cond (C := Try.checked) (s := Rows.OpenSpec.upto Rows.lebFreshSpec) (k := Rows.uptoSmall) rfl own started (by kernel_rfl) Try.func11
    (OpenSpec.witness (enc := enc) (C := Try.checked) (s := Rows.OpenSpec.upto Rows.lebFreshSpec) (k := Rows.uptoSmall) rfl false ⟨#[], #[.slice none 0 0, .slice none 0 0], []⟩ 8 (by kernel_rfl) (by kernel_rfl) (by kernel_rfl)
      (x := ([.nil, .nil], [], [])) (by kernel_rfl) rfl (by kernel_rfl)) ?_
  intro W base args ds gs before hval0 hW hcnd hsmall _
  have hval : ∀ (j : Nat) t v, Try.f11.params[j]? = some t → args[j]? = some v → Value.okWide Try.prog W .any base t v := hval0
  have hW' := hW
  obtain ⟨p, q, hA0, hV, rfl, hfz, hnd⟩ := hW
  have hA : DataW.TrodAll enc Try.prog W 0 (fun _ => true) true Try.f11.params.toList args.toList ds p := hA0
  rw [Try.params11] at hA hval
  obtain ⟨v0, vs0, d0, ds0, p0, q0, hargs, rfl, rfl, h0, r0⟩ := trodAll_cons hA
  obtain ⟨v1, vs1, d1, ds1, p1, q1, rfl, rfl, rfl, h1, r1⟩ := trodAll_cons r0
  obtain ⟨rfl, rfl, rfl⟩ := trodAll_nil r1
  obtain rfl : args = #[v0, v1] := by cases args; simp_all
  obtain ⟨rfl, rfl⟩ := trodVars_none hV
  obtain ⟨a0, len0, cap0, rfl⟩ := okWide_slice Try.underlying23 (hval 0 23 v0 rfl rfl)
  have k0 := h0
  have lt0 : ∀ x ∈ p0, x.block < W.heap.size := by obtain ⟨m, hm⟩ := k0; exact DataW.trod_lt m _ _ _ hm
  have bulk0 : len0 ≤ Rows.uptoBulk d0 := by
    obtain ⟨fuel, hf⟩ := h0
    rcases open_ints Try.underlying23 Try.underlying5 (by kernel_rfl) hf with ⟨hcs, _⟩ | ⟨x, l, c, zs, hcs, _, hl, hm, hz, hx, hcell, hwz⟩
    · simp [Value.cells] at hcs
      omega
    · simp [Value.cells] at hcs
      obtain ⟨rfl, rfl, rfl⟩ := hcs
      rw [Prod.mk.injEq] at hx
      rw [hx.1]
      exact bulk_ints _ _ _ (by rw [hz]; simp; omega)
  obtain ⟨l0, len_0, hb0⟩ : ∃ l : List Nat, l.length = len0 ∧ Bv W W.heap.size (.slice a0 len0 cap0) l := by
    obtain ⟨fuel, hf⟩ := h0
    rcases open_ints Try.underlying23 Try.underlying5 (by kernel_rfl) hf with ⟨hcs, _⟩ | ⟨x, l, c, zs, hcs, _, hl, hm, hz, _, hcell, hwz⟩
    · simp [Value.cells] at hcs
      obtain ⟨rfl, rfl, rfl⟩ := hcs
      exact bytes_in (.inl ⟨rfl, rfl, rfl⟩)
    · simp [Value.cells] at hcs
      obtain ⟨rfl, rfl, rfl⟩ := hcs
      exact bytes_in (.inr ⟨x, zs, rfl, hl, hm, by simpa using hz, hcell, hwz⟩)
  obtain ⟨a1, len1, cap1, rfl⟩ := okWide_slice Try.underlying37 (hval 1 37 v1 rfl rfl)
  have k1 := h1
  have lt1 : ∀ x ∈ p1, x.block < W.heap.size := by obtain ⟨m, hm⟩ := k1; exact DataW.trod_lt m _ _ _ hm
  have bulk1 : len1 ≤ Rows.uptoBulk d1 := by
    obtain ⟨fuel, hf⟩ := h1
    rcases open_ints Try.underlying37 Try.underlying22 (by kernel_rfl) hf with ⟨hcs, _⟩ | ⟨x, l, c, zs, hcs, _, hl, hm, hz, hx, hcell, hwz⟩
    · simp [Value.cells] at hcs
      omega
    · simp [Value.cells] at hcs
      obtain ⟨rfl, rfl, rfl⟩ := hcs
      rw [Prod.mk.injEq] at hx
      rw [hx.1]
      exact bulk_ints _ _ _ (by rw [hz]; simp; omega)
  obtain ⟨l1, len_1, hb1⟩ : ∃ l : List Nat, l.length = len1 ∧ Wv W W.heap.size (.slice a1 len1 cap1) l := by
    obtain ⟨fuel, hf⟩ := h1
    rcases open_ints Try.underlying37 Try.underlying22 (by kernel_rfl) hf with ⟨hcs, _⟩ | ⟨x, l, c, zs, hcs, _, hl, hm, hz, _, hcell, hwz⟩
    · simp [Value.cells] at hcs
      obtain ⟨rfl, rfl, rfl⟩ := hcs
      exact words_in (.inl ⟨rfl, rfl, rfl⟩)
    · simp [Value.cells] at hcs
      obtain ⟨rfl, rfl, rfl⟩ := hcs
      exact words_in (.inr ⟨x, zs, rfl, hl, hm, by simpa using hz, hcell, hwz⟩)
  clear hA0 hval0
  have hsum := bulk_all hsmall
  simp only [List.append_nil, Rows.uptoBulkAll] at hsum
  have hsum2 : l0.length + l1.length ≤ 1048576 := by omega
  refine (walk W (.slice a0 len0 cap0) l0 hb0 (.slice a1 len1 cap1) l1 hb1 hsum2).mono fun e W' ⟨he, bel⟩ => ?_
  subst he
  exact ⟨_, rfl, _, _, _, [], _, [], hW', trodAll_mk1 (shut_bool Try.underlying4 _), (trodAll_cons_mk (Below.trod laidOut (by kernel_rfl) (of_decide_eq_true (by kernel_rfl)) k0 bel lt0) (trodAll_cons_mk (Below.trod laidOut (by kernel_rfl) (of_decide_eq_true (by kernel_rfl)) k1 bel lt1) trodAll_mk0)), rfl, bel.frame _, fun h => by cases h⟩

theorem proved : Rows.LebFreshUptoSaid :=
  OpenClaim.holds_of_cond 11 Try.f11 rfl rfl rfl rfl rfl rfl rfl ⟨rfl, rfl, rfl, rfl, rfl⟩ rfl rfl rfl rfl rfl (by kernel_rfl) Try.func11 (by kernel_rfl)
    (of_decide_eq_true (by kernel_rfl)) (by unfold Func.isWrapper; first | (rw [if_pos (by decide +kernel)]; kernel_rfl) | (rw [if_neg (by decide +kernel)]; exact ⟨rfl, rfl⟩))
    (fun os started H enc _ F => lifted os started H enc F)

end Go.Proofs.Ytheiffjnddhcoaa.lebFresh
