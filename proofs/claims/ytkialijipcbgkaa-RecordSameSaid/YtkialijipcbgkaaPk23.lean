/-
  Cut: A cut of a slice of bytes.
  DrOps: Words of 64 bits as the model's numbers: what Go's operations make of them.
  EqB: Arrays of bytes, compared: their cells.
  Get: leb.Get answers what reading a number tells.
-/
import Derived.Test.YtkialijipcbgkaaPk01
import Derived.Test.YtkialijipcbgkaaProg
import Derived.WalkKit
import Derived.Outline
import Derived.Below
import Derived.Lib.Hide
import Derived.Stop.BytesEq
namespace Go.Proofs.Ytkialijipcbgkaa
theorem Bv.cut_ {w : World} {B b off n c : Nat} {l : List Nat} (h : Bv w B (.slice (some ⟨b, off, none⟩) n c) l) {k m : Nat} (hk : k + m ≤ l.length) :
    Bv w B (.slice (some ⟨b, off + k, none⟩) m (c - k)) ((l.drop k).take m) := by
  obtain ⟨A', c', e, h1, h2, h3, h4, h5⟩ := h
  injection e with e1 e2 e3
  subst e1 e3
  have hlen : ((l.drop k).take m).length = m := by rw [List.length_take, List.length_drop]; omega
  refine ⟨some ⟨b, off + k, none⟩, c - k, by rw [hlen], by omega, by omega, by simp, fun x hx => h4 x (List.mem_of_mem_drop (List.mem_of_mem_take hx)), fun hp => ?_⟩
  obtain ⟨b', off', e, hb, hc⟩ := h5 (by omega)
  injection e with e
  injection e with e4 e5
  subst e4 e5
  refine ⟨b, off + k, rfl, hb, fun j u hj => ?_⟩
  have h6 := hc (k + j) u (by
    rw [List.getElem?_take] at hj
    split at hj
    · rw [List.getElem?_drop] at hj; exact hj
    · cases hj)
  rw [← h6]
  congr 2
  omega
end Go.Proofs.Ytkialijipcbgkaa
namespace Go.Proofs.Ytkialijipcbgkaa
open Go.RowKit
set_option linter.unusedVariables false

abbrev W64 := BitVec 64
/-- A word's number: BitVec.toNat, out of the reach of what simp knows of it. -/
def nl (x : W64) : Nat := x.toNat
theorem nl_lt (x : W64) : nl x < 18446744073709551616 := x.isLt
theorem nl_inj {x y : W64} (h : nl x = nl y) : x = y := BitVec.eq_of_toNat_eq h
theorem nl_of {n : Nat} (h : n < 18446744073709551616) : nl (BitVec.ofNat 64 n) = n := by unfold nl; rw [BitVec.toNat_ofNat]; omega
theorem of_nl (x : W64) : BitVec.ofNat 64 (nl x) = x := by apply nl_inj; rw [nl_of (nl_lt x)]
theorem of_int64 (x : W64) : BitVec.ofInt 64 ((nl x : Nat) : Int) = x := by
  rw [BitVec.ofInt_natCast]; simp [nl]
theorem wrap_nl (x : W64) : IntKind.u64.wrap ((nl x : Nat) : Int) = ((nl x : Nat) : Int) := by
  have := nl_lt x
  rw [IntKind.wrap_u64]; omega
theorem xor_l (x y : W64) : bits .xor .u64 ((nl x : Nat) : Int) ((nl y : Nat) : Int) = ((nl (x ^^^ y) : Nat) : Int) := by
  show IntKind.u64.wrap ((BitVec.ofInt 64 ((nl x : Nat) : Int) ^^^ BitVec.ofInt 64 ((nl y : Nat) : Int)).toNat : Int) = _
  rw [of_int64, of_int64]
  exact wrap_nl _
theorem and_l (x y : W64) : bits .and .u64 ((nl x : Nat) : Int) ((nl y : Nat) : Int) = ((nl (x &&& y) : Nat) : Int) := by
  show IntKind.u64.wrap ((BitVec.ofInt 64 ((nl x : Nat) : Int) &&& BitVec.ofInt 64 ((nl y : Nat) : Int)).toNat : Int) = _
  rw [of_int64, of_int64]
  exact wrap_nl _
theorem or_l (x y : W64) : bits .or .u64 ((nl x : Nat) : Int) ((nl y : Nat) : Int) = ((nl (x ||| y) : Nat) : Int) := by
  show IntKind.u64.wrap ((BitVec.ofInt 64 ((nl x : Nat) : Int) ||| BitVec.ofInt 64 ((nl y : Nat) : Int)).toNat : Int) = _
  rw [of_int64, of_int64]
  exact wrap_nl _
theorem add_l (x y : W64) : (((nl x : Nat) : Int) + ((nl y : Nat) : Int)) % 18446744073709551616 = ((nl (x + y) : Nat) : Int) := by
  unfold nl
  rw [BitVec.toNat_add]; omega
theorem mul_l (x y : W64) : (((nl x : Nat) : Int) * ((nl y : Nat) : Int)) % 18446744073709551616 = ((nl (x * y) : Nat) : Int) := by
  unfold nl
  rw [BitVec.toNat_mul, Int.natCast_emod, Int.natCast_mul]
  rfl
theorem sub_l (x y : W64) : (((nl x : Nat) : Int) - ((nl y : Nat) : Int)) % 18446744073709551616 = ((nl (x - y) : Nat) : Int) := by
  have hx := nl_lt x
  have hy := nl_lt y
  unfold nl at *
  rw [BitVec.toNat_sub]; omega
theorem wadd_l (x y : W64) : IntKind.u64.wrap (((nl x : Nat) : Int) + ((nl y : Nat) : Int)) = ((nl (x + y) : Nat) : Int) := by rw [IntKind.wrap_u64]; exact add_l x y
theorem wmul_l (x y : W64) : IntKind.u64.wrap (((nl x : Nat) : Int) * ((nl y : Nat) : Int)) = ((nl (x * y) : Nat) : Int) := by rw [IntKind.wrap_u64]; exact mul_l x y
theorem wsub_l (x y : W64) : IntKind.u64.wrap (((nl x : Nat) : Int) - ((nl y : Nat) : Int)) = ((nl (x - y) : Nat) : Int) := by rw [IntKind.wrap_u64]; exact sub_l x y
theorem shr_l (x : W64) (n : Nat) : ((nl x : Nat) : Int) / 2 ^ n = ((nl (x >>> n) : Nat) : Int) := by
  unfold nl
  rw [BitVec.toNat_ushiftRight, Nat.shiftRight_eq_div_pow]
  simp
theorem shl_l (x : W64) (n : Nat) : ((nl x : Nat) : Int) * 2 ^ n % 18446744073709551616 = ((nl (x <<< n) : Nat) : Int) := by
  unfold nl
  rw [BitVec.toNat_shiftLeft, Nat.shiftLeft_eq]
  simp
theorem wshl_l (x : W64) (n : Nat) : IntKind.u64.wrap (((nl x : Nat) : Int) * 2 ^ n) = ((nl (x <<< n) : Nat) : Int) := by rw [IntKind.wrap_u64]; exact shl_l x n
theorem nl_of_u64 {n : Nat} (h : n < 18446744073709551616) : ∃ x : W64, nl x = n := ⟨BitVec.ofNat 64 n, nl_of h⟩
theorem nl_eq (x y : W64) : (((nl x : Nat) : Int) == ((nl y : Nat) : Int)) = decide (x = y) := by
  by_cases h : x = y
  · subst h; simp
  · have : nl x ≠ nl y := fun e => h (nl_inj e)
    simp [h]; omega
end Go.Proofs.Ytkialijipcbgkaa
namespace Go.Proofs.Ytkialijipcbgkaa
open Go.RowKit
set_option linter.unusedVariables false

theorem cells_u8 {l : List Nat} (h : ∀ x ∈ l, x < 256) : (l.map UInt8.ofNat).map Extern.Stop.cell = l.map u8 := by
  rw [List.map_map]
  refine List.map_congr_left fun x hx => ?_
  have := h x hx
  simp [Extern.Stop.cell, u8]
  omega
theorem u8_inj {l : List Nat} : ∀ {m : List Nat}, (∀ x ∈ l, x < 256) → (∀ x ∈ m, x < 256) → ((l.map UInt8.ofNat == m.map UInt8.ofNat) = decide (l = m)) := by
  induction l with
  | nil => intro m _ _; cases m <;> simp
  | cons x l ih =>
    intro m hl hm
    cases m with
    | nil => simp
    | cons y m =>
      have hx := hl x (by simp)
      have hy := hm y (by simp)
      have e : (UInt8.ofNat x == UInt8.ofNat y) = decide (x = y) := by
        rw [Bool.eq_iff_iff]
        simp [← UInt8.toNat_inj]
        omega
      rw [List.map_cons, List.map_cons, List.cons_beq_cons, ih (fun z hz => hl z (by simp [hz])) (fun z hz => hm z (by simp [hz])), e]
      rw [Bool.eq_iff_iff]
      simp
theorem size_of5 (w : World) : (sizeOf 5).run Try.prog w = .ok 1 w := by
  obtain ⟨i, hi, _, hs, _⟩ := info_parts info5
  simp [sizeOf, typeInfo, hi, hs]
end Go.Proofs.Ytkialijipcbgkaa
namespace Go.Proofs.Ytkialijipcbgkaa
open Go.RowKit
set_option linter.unusedVariables false

/-- A call that answers these three numbers, and turns nothing that was there. -/
def IsGot (r : Nat × Nat × Nat) (w : World) (e : Ending) (w' : World) : Prop :=
  e = .returned (.tuple #[.int .u64 r.1, .int .i64 r.2.1, .int .i64 r.2.2]) ∧ Below w.heap.size w w'

theorem IsGot.of {w w' : World} {r : Nat × Nat × Nat} {n k e : Nat} (h : r = (n, k, e)) (hb : Below w.heap.size w w') : IsGot r w (.returned (.tuple #[.int .u64 (n : Nat), .int .i64 (k : Nat), .int .i64 (e : Nat)])) w' := by
  subst h; exact ⟨rfl, hb⟩

set_option maxHeartbeats 400000 in
theorem get_arg (A : Option Addr) (l : List Nat) (cap : Nat) (a : Int) (w : World) (hlen : l.length ≤ maxLen) (h : a < 0 ∨ (l.length : Int) < a) :
    Calls Try.prog 37 #[.slice A l.length cap, .int .i64 a] w (IsGot (Mt.get l a) w) := by
  have HR := Lib.hid (Mt.get_arg h)
  unfold maxLen at hlen
  by_cases h1 : a < 0
  · clear h
    go_enter Try.func37, Try.ntmps37
    go_wp2
    go_step3
    go_wp2
    rw [Exit.noGoto_ret]
    go_ret3
    exact IsGot.of HR.out (Below.refl _ _)
  · have h2 : (l.length : Int) < a := by omega
    clear h
    go_enter Try.func37, Try.ntmps37
    go_wp2
    go_step3
    go_wp2
    rw [Exit.noGoto_ret]
    go_ret3
    exact IsGot.of HR.out (Below.refl _ _)

set_option maxHeartbeats 400000 in
theorem get_end (A : Option Addr) (l : List Nat) (cap : Nat) (w : World) (hlen : l.length ≤ cap) (hcap : cap ≤ maxLen) :
    Calls Try.prog 37 #[.slice A l.length cap, .int .i64 l.length] w (IsGot (Mt.get l l.length) w) := by
  have HR := Lib.hid (Mt.get_err (l := l) (a := l.length) (e := 4) (by omega) (by simp [Mt.rd_nil]) (by decide))
  unfold maxLen at hcap
  by_cases hc : cap = l.length
  · subst hc
    go_enter Try.func37, Try.ntmps37
    go_wp2
    go_step3
    go_wp2
    go_step3
    go_wp2
    refine wp_loop_rounds 1 ?_
    rw [rounds_succ]
    go_wp2
    rw [Exit.noGoto_ret]
    go_ret3
    exact IsGot.of HR.out (Below.refl _ _)
  · go_enter Try.func37, Try.ntmps37
    go_wp2
    go_step3
    go_wp2
    go_step3
    go_wp2
    refine wp_loop_rounds 1 ?_
    rw [rounds_succ]
    go_wp2
    rw [Exit.noGoto_ret]
    go_ret3
    exact IsGot.of HR.out (Below.refl _ _)

set_option maxHeartbeats 2000000 in
set_option maxRecDepth 100000 in
theorem get_some (l : List Nat) (cap b off B a : Nat) (w : World) (hlen : l.length ≤ cap) (hcap : cap ≤ maxLen) (ha : a < l.length) (hl : Bts w B (some ⟨b, off, none⟩) l) :
    Calls Try.prog 37 #[.slice (some ⟨b, off, none⟩) l.length cap, .int .i64 a] w (IsGot (Mt.get l a) w) := by
  have hle : a ≤ l.length := by omega
  unfold maxLen at hcap
  have hne : ¬ cap = a := by omega
  obtain ⟨_, _, e0, _, hcell⟩ := hl.2 (by omega)
  injection e0 with e0
  injection e0 with e1 e2
  subst e1 e2
  have hlt := hl.1
  have HC := Lib.hid hcell
  have HL := Lib.hid hlt
  clear hcell hlt hl
  go_enter Try.func37, Try.ntmps37
  go_wp2
  go_step3
  go_wp2
  go_step3
  go_wp2
  go_loop [4, 7, 22] (fun x z i => ∃ (k X : Nat), k ≤ 9 ∧ a + k ≤ l.length ∧ i = .int .i64 k ∧ z = .int .i64 0 ∧ x = .int .u64 X ∧ Hid (X < 128 ^ k) ∧ Hid (Mt.rd 0 0 (l.drop a) = Mt.rd k X (l.drop (a + k)))) (fun _ _ i => l.length - (intOf i).toNat)
  case atStart => exact ⟨0, 0, by omega, by omega, rfl, rfl, rfl, by simp [Hid], rfl⟩
  case round =>
    obtain ⟨k, X, hk9, hk, rfl, rfl, rfl, HX, HR⟩ := hrel
    by_cases hin : a + k < l.length
    · have hd := List.drop_eq_getElem_cons hin
      have hcell := HC.out (a + k) _ (List.getElem?_eq_getElem hin)
      have hc := HL.out _ (List.getElem_mem hin)
      generalize hcc : l[a + k] = c at hd hcell hc
      have HD : Hid (Mt.rd 0 0 (l.drop a) = Mt.rd k X (c :: l.drop (a + k + 1))) := by unfold Hid; rw [HR.out, hd]
      rw [← Nat.add_assoc] at hcell
      have hkin : k < l.length - a := by omega
      clear hcc hd HR HC HL
      by_cases h1 : k = 9 ∧ 1 < c
      · have HE := Lib.hid (HD.out.trans (Mt.rd_form (.inl h1)))
        obtain ⟨rfl, h1c⟩ := h1
        clear HD HX
        go_wp2
        go_ret3
        exact IsGot.of (Mt.get_err hle HE.out (by decide)) (Below.refl _ _)
      · by_cases h2 : 0 < k ∧ c = 0
        · have HE := Lib.hid (HD.out.trans (Mt.rd_form (.inr h2)))
          obtain ⟨h2k, rfl⟩ := h2
          clear HD HX
          by_cases h9 : k = 9
          · subst h9
            go_wp2
            go_ret3
            exact IsGot.of (Mt.get_err hle HE.out (by decide)) (Below.refl _ _)
          · go_wp2
            go_ret3
            exact IsGot.of (Mt.get_err hle HE.out (by decide)) (Below.refl _ _)
        · by_cases h3 : c < 128
          · have HE := Lib.hid (HD.out.trans (Mt.rd_last (by omega) h3))
            clear HD
            by_cases h9 : 8 < k
            · have h1c : c < 2 := by omega
              have hc0 : 0 < c := by omega
              have HV := Lib.hid (or_step k X c hk9 HX.out hc (by omega))
              clear h1 h2
              go_wp2
              go_ret3
              rw [HV.out, Nat.mod_eq_of_lt h3]
              obtain rfl : k = 9 := by omega
              exact IsGot.of (Mt.get_ok hle HE.out) (Below.refl _ _)
            · have h9' : k < 9 := by omega
              have HV := Lib.hid (or_step k X c hk9 HX.out hc (by omega))
              by_cases hk0 : k < 1
              · clear h1 h2 h9
                go_wp2
                go_ret3
                rw [HV.out, Nat.mod_eq_of_lt h3]
                exact IsGot.of (Mt.get_ok hle HE.out) (Below.refl _ _)
              · have hc0 : 0 < c := by omega
                have hk0' : 0 < k := by omega
                clear h1 h2 hk0 h9
                go_wp2
                go_ret3
                rw [HV.out, Nat.mod_eq_of_lt h3]
                exact IsGot.of (Mt.get_ok hle HE.out) (Below.refl _ _)
          · have h9 : k < 9 := by omega
            have HE := Lib.hid (HD.out.trans (Mt.rd_on h1 (by omega)))
            have HV := Lib.hid (or_step k X c hk9 HX.out hc (by omega))
            have HX2 := Lib.hid (Mt.step_lt (c := c) HX.out)
            clear HD h1 h2 HX
            go_wp2
            all_goals
              refine ⟨⟨_, _, _, _, _, _, _, ?rel, rfl, rfl, rfl, rfl, rfl, rfl, rfl⟩, ?measure⟩
              case rel => exact ⟨k + 1, by omega, by omega, by go_num, rfl, X + c % 128 * 128 ^ k, by rw [HV.out], HX2.out, HE.out⟩
              case measure => simp [intOf]; omega
    · have hk0 : a + k = l.length := by omega
      have HE : Hid (Mt.rd 0 0 (l.drop a) = (0, 0, 4)) := by unfold Hid; rw [HR.out, hk0]; simp [Mt.rd_nil]
      have hkk : l.length - a ≤ k := by omega
      clear HR HC HL HX hk0
      go_wp2
      go_ret3
      exact IsGot.of (Mt.get_err hle HE.out (by decide)) (Below.refl _ _)

theorem get_any (v : Value) (l : List Nat) (B : Nat) (a : Int) (w : World) (h : Bv w B v l) :
    Calls Try.prog 37 #[v, .int .i64 a] w (IsGot (Mt.get l a) w) := by
  obtain ⟨A, c, rfl, h1, h2, h3, h4⟩ := h
  by_cases ha : a < 0 ∨ (l.length : Int) < a
  · exact get_arg A l c a w (by omega) ha
  · obtain ⟨k, rfl⟩ := Int.eq_ofNat_of_zero_le (show 0 ≤ a by omega)
    by_cases hk : k = l.length
    · subst hk
      exact get_end A l c w h1 h2
    · have hlt : k < l.length := by omega
      obtain ⟨b, off, rfl, _⟩ := h4.2 (by omega)
      exact get_some l c b off B k w h1 h2 hlt h4
end Go.Proofs.Ytkialijipcbgkaa
