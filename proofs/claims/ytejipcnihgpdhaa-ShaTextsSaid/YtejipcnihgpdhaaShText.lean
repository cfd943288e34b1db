/-
  stookref04.digit, value, Text, Parse: a digest as a text.
-/
import Derived.Test.YtejipcnihgpdhaaShPressA
import Derived.Test.YtejipcnihgpdhaaAppS
import Derived.Test.YtejipcnihgpdhaaHeap
import Derived.Deep.RegionHeld3
import Derived.Laws.BytesArg
namespace Go.Proofs.Ytejipcnihgpdhaa
open Go.RowKit
set_option linter.unusedVariables false

namespace Sh
def dig (n : Nat) : Nat := if n < 10 then 48 + n else 87 + n
theorem dig_lt {n : Nat} (h : n < 16) : dig n < 256 := by unfold dig; split <;> omega
theorem dig_inj {n m : Nat} (hn : n < 16) (hm : m < 16) (h : dig n = dig m) : n = m := by unfold dig at h; split at h <;> split at h <;> omega
/-- A digit's value; 16: it is none. -/
def val (c : Nat) : Nat := if 48 ≤ c ∧ c < 58 then c - 48 else if 97 ≤ c ∧ c < 103 then c - 87 else 16
theorem val_dig {n : Nat} (h : n < 16) : val (dig n) = n := by unfold dig val; split <;> split <;> (try split) <;> omega
theorem val_none {c : Nat} (h : ∀ j, j < 16 → dig j ≠ c) : val c = 16 := by
  unfold val
  split
  · exfalso; refine h (c - 48) (by omega) ?_; unfold dig; split <;> omega
  · split
    · exfalso; refine h (c - 87) (by omega) ?_; unfold dig; split <;> omega
    · rfl
def two (x : Nat) : List Nat := [dig (x / 16), dig (x % 16)]
def text (d : List Nat) : List Nat := d.flatMap two
theorem text_len (d : List Nat) : (text d).length = 2 * d.length := by
  induction d with
  | nil => rfl
  | cons x d ih => unfold text at *; rw [List.flatMap_cons, List.length_append, ih]; simp [two]; omega
theorem text_snoc {d : List Nat} {k x : Nat} (h : d[k]? = some x) : text (d.take (k + 1)) = text (d.take k) ++ two x := by
  unfold text
  rw [List.take_add_one, h]; simp
end Sh

/-- A call that answers this byte, and turns nothing. -/
def IsU8 (n : Nat) (w : World) (e : Ending) (w' : World) : Prop := e = .returned (.int .u8 (n : Nat)) ∧ w = w'

set_option maxHeartbeats 400000 in
theorem digit_any (n : Nat) (h : n < 16) (w : World) : Calls Try.prog 38 #[.int .u8 n] w (IsU8 (Sh.dig n) w) := by
  by_cases h10 : n < 10
  · have hd : Sh.dig n = 48 + n := by unfold Sh.dig; rw [if_pos h10]
    have HD := Lib.hid hd
    have h1 : (n : Int) < 10 := by omega
    clear hd
    go_enter Try.func38, Try.ntmps38
    go_wp2
    go_ret
    exact ⟨by rw [HD.out]; simp, rfl⟩
  · have hd : Sh.dig n = 87 + n := by unfold Sh.dig; rw [if_neg h10]
    have HD := Lib.hid hd
    have h1 : ¬ (n : Int) < 10 := by omega
    clear hd
    go_enter Try.func38, Try.ntmps38
    go_wp2
    go_ret
    refine ⟨?_, rfl⟩
    rw [HD.out]
    congr 2
    simp
    omega

set_option maxHeartbeats 1000000 in
theorem value_any (c : Nat) (h : c < 256) (w : World) : Calls Try.prog 37 #[.int .u8 c] w (IsU8 (Sh.val c) w) := by
  go_enter Try.func37, Try.ntmps37
  go_wp2
  go_loop [3] (fun i => ∃ k : Nat, k ≤ 16 ∧ i = .int .u8 k ∧ Hid (∀ j, j < k → Sh.dig j ≠ c)) (fun i => 16 - (intOf i).toNat)
  case atStart => exact ⟨0, by omega, rfl, by intro j hj; omega⟩
  case round =>
    obtain ⟨k, hk, rfl, HN⟩ := hrel
    by_cases h16 : k < 16
    · have HC := Lib.hid (digit_any k h16 w)
      have i1 : (k : Int) < 16 := by omega
      by_cases he : Sh.dig k = c
      · have HV : Hid (Sh.val c = k) := by unfold Hid; rw [← he]; exact Sh.val_dig h16
        have hq : (((Sh.dig k : Nat) : Int) == (c : Int)) = true := by rw [beq_iff_eq]; omega
        clear he
        go_wp2_with (go_at_call 38; refine HC.out.mono ?_; rintro e w' ⟨rfl, rfl⟩)
        go_ret
        exact ⟨by rw [HV.out]; rfl, rfl⟩
      · have hq : (((Sh.dig k : Nat) : Int) == (c : Int)) = false := by rw [beq_eq_false_iff_ne]; omega
        have HN2 : Hid (∀ j, j < k + 1 → Sh.dig j ≠ c) := by
          intro j hj
          by_cases hjk : j = k
          · subst hjk; exact he
          · exact HN.out j (by omega)
        clear he
        go_wp2_with (go_at_call 38; refine HC.out.mono ?_; rintro e w' ⟨rfl, rfl⟩)
        go_round
        case rel => exact ⟨k + 1, by omega, by go_num, HN2⟩
        case measure => simp [intOf]; omega
    · have hk16 : k = 16 := by omega
      subst hk16
      have HV := Lib.hid (Sh.val_none HN.out)
      go_wp2
      go_ret
      exact ⟨by rw [HV.out]; rfl, rfl⟩

/-- Bytes as Go's text. -/
def txt (l : List Nat) : ByteArray := strOfNums (l.map fun x : Nat => (x : Int))
theorem bvs_some {d : List Nat} {k x : Nat} (h : d[k]? = some x) : (bvs d)[k]? = some (.int .u8 (x : Nat)) := by simp [bvs, h, u8]
theorem two_bytes (w : World) {u v : Nat} (hu : u < 256) (hv : v < 256) : Bv (w.alloc (.cells #[.int .u8 (u : Int), .int .u8 (v : Int)] 5)) (w.heap.size + 1) (.slice (some ⟨w.heap.size, 0, none⟩) 2 2) [u, v] := by
  have h := (OwnB.of_heap (w := w.alloc (.cells #[.int .u8 (u : Int), .int .u8 (v : Int)] 5)) (base := w.heap.size) (g := w.heap.size) (l := [u, v]) (Nat.le_refl _) (by simp [hu, hv]) (by simp [maxLen]) (heap_alloc_new w _)).form_
  simpa using h
theorem text_bytes {w : World} {B n c : Nat} {A : Option Addr} {l : List Nat} (h : Bv w B (.slice A n c) l) (hp : 0 < l.length) :
    (convert 28 9 (.slice A n c)).run Try.prog w = .ok (.string (txt l)) w := by
  obtain ⟨A', c', e, _, _, _, hb⟩ := h
  injection e with e1 e2 e3
  subst e1 e2 e3
  obtain ⟨b, off, rfl, _, hc⟩ := hb.2 hp
  exact run_convert_bytes_arg (P := Try.prog) w 28 5 Try.underlying28 Try.underlying5 b off l.length c (l.map fun x : Nat => (x : Int)) (by simp) (by
    intro i hi
    rw [hc i l[i] (List.getElem?_eq_getElem hi)]
    simp [List.getD, List.getElem?_eq_getElem hi]) 9 Try.underlying9

set_option maxHeartbeats 4000000 in
set_option maxRecDepth 100000 in
theorem rtext_any (d : List Nat) (hl : d.length = 32) (h8 : ∀ x ∈ d, x < 256) (w : World) :
    Calls Try.prog 21 #[.agg (bvs d)] w (fun e w' => e = .returned (.string (txt (Sh.text d))) ∧ Below w.heap.size w w') := by
  have HL := Lib.hid hl
  have H8 := Lib.hid h8
  have hnil := Lib.hid (OwnB.nil_ (w.alloc (.cells (bvs d) 35)) (w.heap.size + 1))
  have HR0 : Hid (Rw (w.alloc (.cells (bvs d) 35)) w.heap.size 35 (bvs d)) := Rw.new w _ _
  have HB0 := Lib.hid ((Below.refl w.heap.size w).alloc (Nat.le_refl _) (.cells (bvs d) 35))
  clear hl h8
  go_enter Try.func21, Try.ntmps21
  go_wp2
  go_loopw [3, 4] (fun v i wr => ∃ k : Nat, k ≤ 32 ∧ i = .int .i64 k ∧ Hid (OwnB wr (w.heap.size + 1) v (Sh.text (d.take k))) ∧ Hid (Rw wr w.heap.size 35 (bvs d)) ∧ Below w.heap.size w wr) (fun _ i _ => 32 - (intOf i).toNat)
  case atStart => exact ⟨0, by omega, rfl, hnil.out, HR0.out, HB0.out⟩
  case round =>
    obtain ⟨k, hk, rfl, HO, HR, hbr⟩ := hrel
    clear hnil HR0 HB0
    have hlt := HR.out.lt
    by_cases h32 : k < 32
    · obtain ⟨x, hx⟩ : ∃ x, d[k]? = some x := ⟨_, List.getElem?_eq_getElem (by rw [HL.out]; exact h32)⟩
      have hx8 := H8.out x (List.mem_of_getElem? hx)
      have hcell : wr.cell? ⟨w.heap.size, k, none⟩ = some (.int .u8 (x : Nat)) := by
        rw [HR.out.cell k]
        exact bvs_some hx
      have hts := Sh.text_snoc hx
      obtain ⟨L, hL⟩ : ∃ L, Sh.text (d.take k) = L := ⟨_, rfl⟩
      have hLl : L.length = 2 * k := by rw [← hL, Sh.text_len, List.length_take, HL.out]; omega
      rw [hL] at HO hts
      obtain ⟨p, hp⟩ : ∃ p, x / 16 = p := ⟨_, rfl⟩
      obtain ⟨q, hq⟩ : ∃ q, x % 16 = q := ⟨_, rfl⟩
      have e1 : (x : Int) / 16 = (p : Nat) := by omega
      have e2 : (x : Int) % 16 = (q : Nat) := by omega
      have e3 : (x : Int).tmod 16 = (q : Nat) := by rw [Int.tmod_eq_emod_of_nonneg (by omega)]; exact e2
      have hwp : IntKind.u8.wrap (p : Int) = (p : Int) := by rw [IntKind.wrap_u8]; omega
      have hwq : IntKind.u8.wrap (q : Int) = (q : Int) := by rw [IntKind.wrap_u8]; omega
      have hu := Sh.dig_lt (n := p) (by omega)
      have hv := Sh.dig_lt (n := q) (by omega)
      have HP : Hid (∀ w, Calls Try.prog 38 #[.int .u8 p] w (IsU8 (Sh.dig p) w)) := fun w => digit_any p (by omega) w
      have HQ : Hid (∀ w, Calls Try.prog 38 #[.int .u8 q] w (IsU8 (Sh.dig q) w)) := fun w => digit_any q (by omega) w
      have htwo : Sh.two x = [Sh.dig p, Sh.dig q] := by unfold Sh.two; rw [hp, hq]
      rw [htwo] at hts
      obtain ⟨u, hue⟩ : ∃ u, Sh.dig p = u := ⟨_, rfl⟩
      obtain ⟨v, hve⟩ : ∃ v, Sh.dig q = v := ⟨_, rfl⟩
      rw [hue] at HP hu hts
      rw [hve] at HQ hv hts
      have HT := Lib.hid hts
      have HLl := Lib.hid hLl
      have hown1 : OwnB (wr.alloc (.cells #[.int .u8 (u : Int), .int .u8 (v : Int)] 5)).drew (w.heap.size + 1) _ L := HO.out.alloc_ (.cells #[.int .u8 (u : Int), .int .u8 (v : Int)] 5)
      have hsrc : Bv (wr.alloc (.cells #[.int .u8 (u : Int), .int .u8 (v : Int)] 5)).drew (wr.heap.size + 1) (.slice (some ⟨wr.heap.size, 0, none⟩) 2 2) [u, v] := two_bytes wr hu hv
      have hbel1 := (hbr.alloc hbr.size (.cells #[.int .u8 (u : Int), .int .u8 (v : Int)] 5)).drew
      have hR1 : Rw (wr.alloc (.cells #[.int .u8 (u : Int), .int .u8 (v : Int)] 5)).drew w.heap.size 35 (bvs d) := HR.out.old _
      have hs0 : wr.drew.cell? ⟨w.heap.size, k, none⟩ = some (.int .u8 (x : Nat)) := hcell
      have hs1 : (wr.alloc (.cells #[.int .u8 (u : Int), .int .u8 (v : Int)] 5)).drew.cell? ⟨w.heap.size, k, none⟩ = some (.int .u8 (x : Nat)) := (hR1.cell k).trans ((HR.out.cell k).symm.trans hcell)
      have HO1 := Lib.hid hown1
      have HS1 := Lib.hid hsrc
      have HB1 := Lib.hid hbel1
      have HR1 := Lib.hid hR1
      have HC := Lib.hid ((HR.out.cell k).symm.trans hcell)
      have hsz : L.length + [u, v].length ≤ 140737488355328 := by simp; omega
      have hbs : w.heap.size + 1 ≤ (wr.alloc (.cells #[.int .u8 (u : Int), .int .u8 (v : Int)] 5)).drew.heap.size := by simp [World.drew]; omega
      have i1 : (k : Int) < 32 := by omega
      clear hown1 hsrc hbel1 hR1 hcell hx hL hp hq htwo hue hve hts hLl HO HR
      go_wp2
      go_region_held3 (fun w' => w'.cell? ⟨w.heap.size, k, none⟩ = some (.int .u8 (x : Nat)))
        (first | exact hs0 | exact hs1 | exact hs2)
        (first
          | (go_at_call 38; (with_reducible refine (HP.out _).mono ?_); rintro e' w' ⟨rfl, rfl⟩)
          | (go_at_call 38; (with_reducible refine (HQ.out _).mono ?_); rintro e' w' ⟨rfl, rfl⟩)
          | (refine step_append_bytes _ rfl _ _ rfl rfl (w.heap.size + 1) _ rfl L HO1.out _ rfl _ [u, v] HS1.out hsz hbs ?_; intro A' c' w' hA; have HR2 := Lib.hid (show Rw w' w.heap.size _ _ from (hA.grown.block w.heap.size (by simp [World.drew]; omega) (fun e => by have := (HO1.out.lt_ _ e.symm).1; omega)).trans HR1.out); have hs2 := (HR2.out.cell k).trans HC.out; have HB2 := Lib.hid (HB1.out.grown hA.grown (Nat.le_trans (by omega) hbs) (fun j hj => by have := (HO1.out.lt_ j hj).1; omega)); have HA := Lib.hid hA.own; clear hA))
      have e4 : (L ++ [u, v]).length = L.length + 2 := by simp
      have ho4 := HA.out
      rw [← HT.out, HT.out, e4] at ho4
      go_wp2
      go_roundw
      case rel => exact ⟨k + 1, by omega, by go_num, (by rw [HT.out]; exact ho4), HR2.out, HB2.out⟩
      case measure => simp [intOf]; omega
    · have hk32 : k = 32 := by omega
      subst hk32
      have ht : d.take 32 = d := List.take_of_length_le (by rw [HL.out]; omega)
      rw [ht] at HO
      have hlen : (Sh.text d).length = 64 := by rw [Sh.text_len, HL.out]
      obtain ⟨A, c, rfl, _⟩ := HO.out.form_
      have hcv := text_bytes HO.out.form_ (by omega)
      clear ht hlen
      go_wp2
      go_ret
      exact ⟨rfl, hbr⟩
end Go.Proofs.Ytejipcnihgpdhaa
