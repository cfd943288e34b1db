/-
  frame.Get answers a frame's payload, in new memory.
-/
import Derived.Test.YteemhdoegjdaiaaFPut
import Derived.Test.YteemhdoegjdaiaaGetRow
import Derived.Stop.BytesEq
namespace Go.Proofs.Yteemhdoegjdaiaa
open Go.RowKit
set_option linter.unusedVariables false

theorem Bv.bts_ {w : World} {B n c : Nat} {A : Option Addr} {l : List Nat} (h : Bv w B (.slice A n c) l) : Bts w B A l := by
  obtain ⟨A', c0, e, _, _, _, h4⟩ := h
  injection e with e1 e2 e3
  subst e1
  exact h4

theorem array_at (a : Addr) (w : World) : (Instr.arrayAt 49 (.slice (some a) 4 4)).run Try.prog w = .ok (.pointer (some a)) w := by
  simp [Instr.arrayAt, run_underlying Try.underlying49]
theorem cells_u8 {l : List Nat} (h : ∀ x ∈ l, x < 256) : (l.map UInt8.ofNat).map Extern.Stop.cell = l.map u8 := by
  rw [List.map_map]
  refine List.map_congr_left fun x hx => ?_
  have := h x hx
  simp [Extern.Stop.cell, u8]
  omega
theorem u8_inj {l : List Nat} : ∀ {m : List Nat}, (∀ x ∈ l, x < 256) → (∀ x ∈ m, x < 256) → ((l.map UInt8.ofNat == m.map UInt8.ofNat) = decide (l = m)) := by
  induction l with
  | nil => intro m _ _; cases m <;> simp
  | cons x l ih =>
    intro m hl hm
    cases m with
    | nil => simp
    | cons y m =>
      have hx := hl x (by simp)
      have hy := hm y (by simp)
      have e : (UInt8.ofNat x == UInt8.ofNat y) = decide (x = y) := by
        rw [Bool.eq_iff_iff]
        simp [← UInt8.toNat_inj]
        omega
      rw [List.map_cons, List.map_cons, List.cons_beq_cons, ih (fun z hz => hl z (by simp [hz])) (fun z hz => hm z (by simp [hz])), e]
      rw [Bool.eq_iff_iff]
      simp
theorem size_of5 (w : World) : (sizeOf 5).run Try.prog w = .ok 1 w := by
  obtain ⟨i, hi, _, hs, _⟩ := info_parts info5
  simp [sizeOf, typeInfo, hi, hs]
theorem equal4 {s t : List Nat} (hs : s.length = 4) (ht : t.length = 4) (hs8 : ∀ x ∈ s, x < 256) (ht8 : ∀ x ∈ t, x < 256) (w : World) :
    (Op.equalIn 10000 49 (.agg (s.map u8).toArray) (.agg (t.map u8).toArray)).run Try.prog w = .ok (decide (s = t)) w := by
  have h := run_equalIn_bytes (P := Try.prog) w 9998 49 5 4 Try.underlying49 Try.underlying5 size_of5 (s.map UInt8.ofNat) (t.map UInt8.ofNat) (by simpa using hs) (by simpa using ht)
  rw [cells_u8 hs8, cells_u8 ht8, u8_inj hs8 ht8] at h
  exact h
theorem Bts.four_ {w : World} {B : Nat} {A : Option Addr} {l : List Nat} {b off : Nat} (h : Bts w B (some ⟨b, off, none⟩) l) {x : Nat} (hx : x + 4 ≤ l.length) :
    ∃ s0 s1 s2 s3, (l.drop x).take 4 = [s0, s1, s2, s3] ∧ b < B ∧ ∀ w', Below B w w' → w'.cell? ⟨b, off + x, none⟩ = some (.int .u8 (s0 : Nat)) ∧ w'.cell? ⟨b, off + x + 1, none⟩ = some (.int .u8 (s1 : Nat)) ∧ w'.cell? ⟨b, off + x + 2, none⟩ = some (.int .u8 (s2 : Nat)) ∧ w'.cell? ⟨b, off + x + 3, none⟩ = some (.int .u8 (s3 : Nat)) := by
  obtain ⟨b', off', e, hb, hc⟩ := h.2 (by omega)
  injection e with e
  injection e with e1 e2
  subst e1 e2
  have hk : ∀ w', Below B w w' → ∀ j, j < 4 → ∀ u, l[x + j]? = some u → w'.cell? ⟨b, off + x + j, none⟩ = some (.int .u8 (u : Nat)) := by
    intro w' hw j hj u hu
    have h1 := hc _ u hu
    rw [← Nat.add_assoc] at h1
    exact (hw.cell (p := ⟨b, off + x + j, none⟩) hb).trans h1
  refine ⟨l[x], l[x + 1], l[x + 2], l[x + 3], ?_, hb, fun w' hw => ⟨?_, ?_, ?_, ?_⟩⟩
  · rw [List.drop_eq_getElem_cons (by omega), List.take_succ_cons, List.drop_eq_getElem_cons (by omega), List.take_succ_cons, List.drop_eq_getElem_cons (by omega), List.take_succ_cons, List.drop_eq_getElem_cons (by omega), List.take_succ_cons]; rfl
  · exact hk w' hw 0 (by omega) _ (List.getElem?_eq_getElem (by omega))
  · exact hk w' hw 1 (by omega) _ (List.getElem?_eq_getElem (by omega))
  · exact hk w' hw 2 (by omega) _ (List.getElem?_eq_getElem (by omega))
  · exact hk w' hw 3 (by omega) _ (List.getElem?_eq_getElem (by omega))

set_option maxHeartbeats 2000000 in
set_option maxRecDepth 100000 in
theorem fget_any (v : Value) (l : List Nat) (B : Nat) (a : Int) (w : World) (hB : B ≤ w.heap.size) (h : Bv w B v l) (hsz : l.length ≤ 140737488355328) :
    Calls Try.prog 17 #[v, .int .i64 a] w (IsRowF (Fr.get l a) w) := by
  have HG := Lib.hid (getRow_any v l B a 65536 w hB h (by omega) hsz)
  have H0 := Lib.hid h
  rcases Fr.row_cases h.lt_ a with ⟨e, he2, he5, hr⟩ | ⟨k, y, rfl, hk, ht, hp0, hle, hy, hr⟩
  · have HR := Lib.hid hr
    have HX := Lib.hid (Fr.get_err hr (by omega))
    have hq : (((e : Nat) : Int) != 0) = true := by rw [bne_iff_ne]; omega
    clear hr
    obtain ⟨A, c, rfl, _, _, _, _⟩ := h
    go_enter Try.func17, Try.ntmps17
    go_wp2_with fail
    ((with_reducible refine HG.out.mono ?_); rintro e' w2 ⟨A2, he, ho2, hb2⟩)
    rw [HR.out] at he ho2
    subst he
    clear HG ho2
    go_wp2
    go_ret3
    exact IsRowF.none_ HX.out hb2
  · have hpl := putRow_len y
    obtain ⟨R, hR⟩ : ∃ R, putRow y = R := ⟨_, rfl⟩
    rw [hR] at ht hp0 hle hr
    obtain ⟨m, hm⟩ : ∃ m, R.length = m := ⟨_, rfl⟩
    rw [hm] at ht hp0 hle hr
    obtain ⟨x, hx⟩ : ∃ x, k + m = x := ⟨_, rfl⟩
    rw [hx] at hr hle
    have HR := Lib.hid hr
    obtain ⟨A, c, rfl, hc1, hc2, hc3, h4⟩ := id h
    obtain ⟨b, off, rfl, _⟩ := h4.2 (by omega)
    unfold maxLen at hc2
    by_cases hsh : l.length - x < 4
    · have HX := Lib.hid (Fr.get_short hr hsh)
      have hsh' : ((l.length : Nat) : Int) - (x : Int) < 4 := by omega
      clear hr h4 hc3 ht hpl hR
      go_enter Try.func17, Try.ntmps17
      go_wp2_with fail
      ((with_reducible refine HG.out.mono ?_); rintro e' w2 ⟨A2, he, ho2, hb2⟩)
      rw [HR.out] at he ho2
      subst he
      clear HG ho2
      go_wp2
      go_ret3
      exact IsRowF.none_ HX.out hb2
    · obtain ⟨s0, s1, s2, s3, hs, hbB, hcell⟩ := Bts.four_ (A := some ⟨b, off, none⟩) h4 (x := x) (by omega)
      have hsh' : 4 ≤ ((l.length : Nat) : Int) - (x : Int) := by omega
      have HX : ∀ n, Cr.of R = n → (if [s0, s1, s2, s3] = four n then Fr.get l (k : Int) = (y, x + 4, 0) else Fr.get l (k : Int) = ([], 0, 6)) := by
        intro n hn
        have e1 : x - k = m := by omega
        have hq : four (Cr.of ((l.drop k).take (x - k))) = four n := by rw [e1, ht, hn]
        split
        · exact Fr.get_ok hr hsh (by rw [hs, hq]; assumption)
        · exact Fr.get_sum hr hsh (by rw [hs, hq]; assumption)
      have HXH := Lib.hid HX
      have HT := Lib.hid ht
      obtain ⟨n, hn⟩ : ∃ n, Cr.of R = n := ⟨_, rfl⟩
      have HN := Lib.hid hn
      have HXn := Lib.hid (HX n hn)
      have HCE := Lib.hid hcell
      have hs8 : ∀ z ∈ [s0, s1, s2, s3], z < 256 := fun z hz => by rw [← hs] at hz; exact h.lt_ z (List.mem_of_mem_drop (List.mem_of_mem_take hz))
      obtain ⟨q, hqe⟩ : ∃ q : Bool, decide ([s0, s1, s2, s3] = four n) = q := ⟨_, rfl⟩
      have HEQ : ∀ w, (Op.equalIn 10000 49 (.agg #[.int .u8 (s0 : Nat), .int .u8 (s1 : Nat), .int .u8 (s2 : Nat), .int .u8 (s3 : Nat)]) (.agg #[.int .u8 (Cr.byt n 0 : Nat), .int .u8 (Cr.byt n 1 : Nat), .int .u8 (Cr.byt n 2 : Nat), .int .u8 (Cr.byt n 3 : Nat)])).run Try.prog w = .ok q w := fun w => by rw [← hqe]; exact equal4 rfl rfl hs8 (four_lt n) w
      have HXq : Hid (Fr.get l (k : Int) = if q then (y, x + 4, 0) else ([], 0, 6)) := by
        have := HXn.out
        unfold Hid
        rw [← hqe]
        by_cases h : [s0, s1, s2, s3] = four n
        · rw [if_pos h] at this; simp [h, this]
        · rw [if_neg h] at this; simp [h, this]
      clear hs8 hqe HXn
      clear hr h4 hc3 ht hpl hR hs HX hn hcell HXH
      have har := fun w => array_at ⟨b, off + x, none⟩ w
      have i0 : (0 : Int) ≤ (x : Int) := by omega
      have i1 : (x : Int) ≤ (x : Int) + 4 := by omega
      have i2 : (x : Int) + 4 ≤ (c : Nat) := by omega
      have i3 : (0 : Int) ≤ (k : Int) := by omega
      have i4 : (k : Int) ≤ (x : Int) := by omega
      have i5 : (x : Int) ≤ (c : Nat) := by omega
      have i6 : ¬ x = k := by omega
      have i7 : ((x : Int) + 4).toNat = x + 4 := by omega
      go_enter Try.func17, Try.ntmps17
      go_wp2_with fail
      ((with_reducible refine HG.out.mono ?_); rintro e' w2 ⟨A2, he, ho2, hb2⟩)
      rw [HR.out] at he ho2
      subst he
      have HB2 := Lib.hid hb2
      have HO2 := Lib.hid ho2
      have hcut := (H0.out.below_ hb2 hB).cut_ (k := k) (m := m) (by omega)
      rw [HT.out] at hcut
      have HS := Lib.hid (sumOf_any _ R B w2.drew (Nat.le_trans hB hb2.drew.size) (show Bv _ _ _ _ from hcut.room_ (c' := m) (by omega) (by simp only [maxLen]; omega)))
      rw [HN.out] at HS
      have hs0 := HCE.out w2.drew (hb2.mono hB).drew
      have em : m = x - k := by omega
      rw [em] at HS
      have HBd := Lib.hid hb2.drew
      clear HG hb2 ho2 hcut em
      go_wp2
      go_region_held3 (fun w' => w'.cell? ⟨b, off + x, none⟩ = some (.int .u8 (s0 : Nat)) ∧ w'.cell? ⟨b, off + x + 1, none⟩ = some (.int .u8 (s1 : Nat)) ∧ w'.cell? ⟨b, off + x + 2, none⟩ = some (.int .u8 (s2 : Nat)) ∧ w'.cell? ⟨b, off + x + 3, none⟩ = some (.int .u8 (s3 : Nat)))
        (first | exact hs0 | exact hs1)
        (first | (go_at_call 29; (with_reducible refine HS.out.mono ?_); rintro e w3 ⟨rfl, hb3⟩; have HB3 := Lib.hid (HBd.out.trans (hb3.mono HBd.out.size)); have hs1 := HCE.out w3 (HB3.out.mono hB)))
      all_goals
        have hO := (show OwnB w2.drew w.heap.size _ _ from HO2.out).below_ hb3 (Nat.le_refl _)
        try clear hs0
        try clear hs1
        clear HS HCE har
        cases q
        · have HXf : Hid (Fr.get l (k : Int) = ([], 0, 6)) := HXq.out.trans (if_neg (by simp))
          clear HXq
          go_wp2
          go_ret3
          exact IsRowF.none_ HXf.out HB3.out
        · have HXf : Hid (Fr.get l (k : Int) = (y, x + 4, 0)) := HXq.out.trans (if_pos rfl)
          clear HXq
          go_wp2
          go_ret3
          exact IsRowF.of HXf.out hO HB3.out
end Go.Proofs.Yteemhdoegjdaiaa
