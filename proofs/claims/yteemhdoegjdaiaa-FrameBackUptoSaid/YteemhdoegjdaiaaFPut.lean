/-
  frame.Size, stookref03.Size, stookref02.Four, stookref03.Put: what they answer.
-/
import Derived.Test.YteemhdoegjdaiaaFSum
import Derived.Test.YteemhdoegjdaiaaHeap
import Derived.Test.YteemhdoegjdaiaaRPut
import Derived.Deep.RegionHeld3
import Derived.Deep.QuietTactic
import Derived.BigQuiet
namespace Go.Proofs.Yteemhdoegjdaiaa
open Go.RowKit
set_option linter.unusedVariables false

/-- A call that answers this number of Go's type int, and turns nothing that was there. -/
def IsInt (n : Nat) (w : World) (e : Ending) (w' : World) : Prop := e = .returned (.int .i64 (n : Nat)) ∧ Below w.heap.size w w'
namespace Fr
/-- What Size tells. -/
def size (n : Int) : Nat := if n < 0 ∨ 65536 < n then 0 else (Mt.put n.toNat).length + n.toNat + 4
theorem size_out {n : Int} (h : n < 0 ∨ 65536 < n) : size n = 0 := by unfold size; rw [if_pos h]
theorem size_in {n : Nat} (h : n ≤ 65536) : size (n : Int) = (Mt.put n).length + n + 4 := by unfold size; rw [if_neg (by omega), Int.toNat_natCast]
theorem size_frm {p : List Nat} (h : p.length ≤ 65536) : size (p.length : Nat) = (frm p).length := by rw [size_in h, frm_len2]
/-- What Put tells. -/
def put (p : List Nat) : List Nat × Nat := if 65536 < p.length then ([], 3) else (frm p, 0)
theorem put_out {p : List Nat} (h : 65536 < p.length) : put p = ([], 3) := by unfold put; rw [if_pos h]
theorem put_in {p : List Nat} (h : p.length ≤ 65536) : put p = (frm p, 0) := by unfold put; rw [if_neg (by omega)]
end Fr
theorem wrap_small (n : Nat) (h : n ≤ 65536) : IntKind.u64.wrap (n : Int) = (n : Int) := by rw [IntKind.wrap_u64]; omega

set_option maxHeartbeats 1000000 in
set_option maxRecDepth 100000 in
theorem size_any (a : Int) (w : World) : Calls Try.prog 14 #[.int .i64 a] w (IsInt (Fr.size a) w) := by
  by_cases h : a < 0 ∨ 65536 < a
  · have HX := Lib.hid (Fr.size_out h)
    rcases h with h | h
    · go_enter Try.func14, Try.ntmps14
      go_wp2
      go_ret
      exact ⟨by rw [HX.out]; rfl, Below.refl _ _⟩
    · have h2 : ¬ a < 0 := by omega
      go_enter Try.func14, Try.ntmps14
      go_wp2
      go_ret
      exact ⟨by rw [HX.out]; rfl, Below.refl _ _⟩
  · obtain ⟨n, rfl⟩ := Int.eq_ofNat_of_zero_le (a := a) (by omega)
    have hn : n ≤ 65536 := by omega
    have HX := Lib.hid (Fr.size_in hn)
    have HC := Lib.hid (len_any n (by unfold Mt.B64; omega) w)
    have HW := Lib.hid (wrap_small n hn)
    have hlen := Mt.put_len_le n
    obtain ⟨m, hm⟩ : ∃ m, (Mt.put n).length = m := ⟨_, rfl⟩
    rw [hm] at HX HC hlen
    clear hm h
    go_enter Try.func14, Try.ntmps14
    go_wp2_with fail
    try rw [HW.out]
    ((with_reducible refine HC.out.mono ?_); rintro e w1 ⟨rfl, rfl⟩)
    go_wp2
    go_ret
    exact ⟨by rw [HX.out]; rfl, Below.refl _ _⟩

theorem IsFresh.len_ {l : List Nat} {w w' : World} {e : Ending} (h : IsFresh l w e w') : ∃ A c, e = .returned (.slice A l.length c) ∧ OwnB w' w.heap.size (.slice A l.length c) l ∧ Below w.heap.size w w' := h

set_option maxHeartbeats 1000000 in
set_option maxRecDepth 100000 in
theorem rsize_any (a : Int) (w : World) : Calls Try.prog 15 #[.int .i64 a] w (IsInt (Fr.size a) w) := by
  by_cases h : a < 0 ∨ 65536 < a
  · have HX := Lib.hid (Fr.size_out h)
    rcases h with h | h
    · go_enter Try.func15, Try.ntmps15
      go_wp2
      go_ret
      exact ⟨by rw [HX.out]; rfl, Below.refl _ _⟩
    · have h2 : ¬ a < 0 := by omega
      go_enter Try.func15, Try.ntmps15
      go_wp2
      go_ret
      exact ⟨by rw [HX.out]; rfl, Below.refl _ _⟩
  · obtain ⟨n, rfl⟩ := Int.eq_ofNat_of_zero_le (a := a) (by omega)
    have hn : n ≤ 65536 := by omega
    have HX := Lib.hid (Fr.size_in hn)
    have HC := Lib.hid (rput_any 9 n w (by omega) (by unfold Mt.B64; omega))
    have HW := Lib.hid (wrap_small n hn)
    have hlen := Mt.put_len_le n
    clear h
    go_enter Try.func15, Try.ntmps15
    go_wp2_with fail
    try rw [HW.out]
    ((with_reducible refine HC.out.mono ?_); rintro e w1 ⟨A, c, rfl, _, hb⟩)
    obtain ⟨m, hm⟩ : ∃ m, (Mt.put n).length = m := ⟨_, rfl⟩
    rw [hm] at HX hlen ⊢
    clear hm HC
    go_wp2
    go_ret
    exact ⟨by rw [HX.out]; rfl, hb⟩

theorem four_at (n : Nat) : ((n : Int) % 256 = ((Cr.byt n 0 : Nat) : Int)) ∧ ((n : Int) / 256 % 256 = ((Cr.byt n 1 : Nat) : Int)) ∧ ((n : Int) / 65536 % 256 = ((Cr.byt n 2 : Nat) : Int)) ∧ ((n : Int) / 16777216 % 256 = ((Cr.byt n 3 : Nat) : Int)) := by
  unfold Cr.byt
  refine ⟨by simp, by simp, by simp, by simp⟩

theorem Bv.lits4_ (w : World) (n : Nat) : OwnB (w.alloc (.cells #[.int .u8 (Cr.byt n 0 : Nat), .int .u8 (Cr.byt n 1 : Nat), .int .u8 (Cr.byt n 2 : Nat), .int .u8 (Cr.byt n 3 : Nat)] 5)) w.heap.size (.slice (some ⟨w.heap.size, 0, none⟩) 4 4) (four n) :=
  OwnB.of_heap (l := four n) (Nat.le_refl _) (four_lt n) (by simp [maxLen, four]) (heap_alloc_new w _)

set_option maxHeartbeats 1000000 in
set_option maxRecDepth 100000 in
theorem four_any (n : Nat) (h : Cr.B32 n) (w : World) : Calls Try.prog 31 #[.int .u32 n] w (IsFull (four n) w) := by
  have hn : n < 4294967296 := h
  obtain ⟨h0, h1, h2, h3⟩ := four_at n
  have h4 : (n : Int) / 16777216 = ((Cr.byt n 3 : Nat) : Int) := by omega
  have HO := Lib.hid (Bv.lits4_ w n)
  clear h3
  go_enter Try.func31, Try.ntmps31
  go_wp2
  go_ret
  exact ⟨w.heap.size, rfl, HO.out, (Below.refl w.heap.size w).alloc (Nat.le_refl _) _⟩

/-- A call that answers these bytes in new memory, with spare room or without, and an error, and turns nothing that was there. -/
def IsBE (r : List Nat × Nat) (w : World) (e : Ending) (w' : World) : Prop :=
  ∃ A c, e = .returned (.tuple #[.slice A r.1.length c, .int .i64 r.2]) ∧ OwnB w' w.heap.size (.slice A r.1.length c) r.1 ∧ Below w.heap.size w w'
/-- The same, without spare room. -/
def IsBEF (r : List Nat × Nat) (w : World) (e : Ending) (w' : World) : Prop :=
  ∃ A, e = .returned (.tuple #[.slice A r.1.length r.1.length, .int .i64 r.2]) ∧ OwnB w' w.heap.size (.slice A r.1.length r.1.length) r.1 ∧ Below w.heap.size w w'
theorem IsBE.of {w w' : World} {r : List Nat × Nat} {y : List Nat} {e c : Nat} {A : Option Addr} (h : r = (y, e)) (ho : OwnB w' w.heap.size (.slice A y.length c) y) (hb : Below w.heap.size w w') :
    IsBE r w (.returned (.tuple #[.slice A y.length c, .int .i64 (e : Nat)])) w' := by subst h; exact ⟨A, c, rfl, ho, hb⟩
theorem IsBEF.of {w w' : World} {r : List Nat × Nat} {y : List Nat} {e : Nat} {A : Option Addr} (h : r = (y, e)) (ho : OwnB w' w.heap.size (.slice A y.length y.length) y) (hb : Below w.heap.size w w') :
    IsBEF r w (.returned (.tuple #[.slice A y.length y.length, .int .i64 (e : Nat)])) w' := by subst h; exact ⟨A, rfl, ho, hb⟩
theorem IsBE.none_ {w : World} {r : List Nat × Nat} {e : Nat} (h : r = ([], e)) : IsBE r w (.returned (.tuple #[.slice none 0 0, .int .i64 (e : Nat)])) w := by
  subst h; exact ⟨none, 0, rfl, OwnB.nil_ _ _, Below.refl _ _⟩
theorem IsBEF.none_ {w : World} {r : List Nat × Nat} {e : Nat} (h : r = ([], e)) : IsBEF r w (.returned (.tuple #[.slice none 0 0, .int .i64 (e : Nat)])) w := by
  subst h; exact ⟨none, rfl, OwnB.nil_ _ _, Below.refl _ _⟩

set_option maxHeartbeats 1000000 in
set_option maxRecDepth 100000 in
theorem rfput_any (v : Value) (l : List Nat) (B : Nat) (w : World) (hB : B ≤ w.heap.size) (h : Bv w B v l) :
    Calls Try.prog 12 #[v] w (IsBE (Fr.put l) w) := by
  by_cases hl : 65536 < l.length
  · have HX := Lib.hid (Fr.put_out hl)
    obtain ⟨A, c, rfl, _, _, _, _⟩ := h
    have hlen : (65536 : Int) < ((l.length : Nat) : Int) := by omega
    clear hl
    go_enter Try.func12, Try.ntmps12
    go_wp2
    go_ret2
    exact IsBE.none_ HX.out
  · have HX := Lib.hid (Fr.put_in (p := l) (by omega))
    have HR := Lib.hid (rputRow_any v l B w hB h (by omega))
    have hpl := putRow_len l
    have hp10 := Mt.put_len_le l.length
    have hrow := Fr.row_lt h.lt_ (show Mt.B64 l.length by unfold Mt.B64; omega)
    have HN := Lib.hid (Cr.of_b32 hrow)
    have hF : Fr.frm l = putRow l ++ four (Cr.of (putRow l)) := rfl
    obtain ⟨R, hR⟩ : ∃ R, putRow l = R := ⟨_, rfl⟩
    rw [hR] at HR hpl HN hF
    obtain ⟨n, hn⟩ : ∃ n, Cr.of R = n := ⟨_, rfl⟩
    rw [hn] at HN hF
    rw [hF] at HX
    have hRl : R.length ≤ 65546 := by omega
    have hE := Lib.hid hn
    obtain ⟨A, c, rfl, _, _, _, _⟩ := h
    have hlen : ((l.length : Nat) : Int) ≤ 65536 := by omega
    clear hl hpl hp10 hrow hF hR hn
    go_enter Try.func12, Try.ntmps12
    go_wp2_with fail
    ((with_reducible refine HR.out.mono ?_); rintro e w1 ⟨A1, c1, rfl, ho, hb1⟩)
    have HC := Lib.hid (rof_any _ R _ w1 ho.form_)
    have HO := Lib.hid ho
    have HB := Lib.hid hb1
    rw [hE.out] at HC
    have hz := hb1.size
    clear HR ho hb1
    go_wp2_with fail
    ((with_reducible refine HC.out.mono ?_); rintro e w2 ⟨rfl, rfl⟩)
    have HF := Lib.hid (four_any n HN.out w1)
    go_wp2_with fail
    ((with_reducible refine HF.out.mono ?_); rintro e w3 ⟨g, rfl, ho3, hb3⟩)
    have HO3 := Lib.hid ho3.form_
    have HB3 := Lib.hid (HB.out.trans (hb3.mono hz))
    have HO1 := Lib.hid (HO.out.below_ hb3 (Nat.le_refl _))
    have hfit : R.length + (four n).length ≤ 140737488355328 := by rw [four_len]; omega
    obtain ⟨S, hS⟩ : ∃ S, four n = S := ⟨_, rfl⟩
    rw [hS] at HO3 hfit HX ⊢
    have hz3 := HB3.out.size
    clear HC HF ho3 hb3 HB HO hS
    go_wp2_with (at_builtin; go_must (refine wpList_append_bytes _ rfl _ _ rfl rfl w.heap.size _ rfl R HO1.out _ rfl _ S HO3.out (by omega) hz3 ?_; intro A4 c4 w4 hA))
    have hO := hA.own
    have hB4 := HB3.out.grown hA.grown hz3 (fun k hk => (HO1.out.lt_ k hk).1)
    go_ret2
    rw [← List.length_append]
    exact IsBE.of HX.out hO hB4

theorem Bv.room_ {w : World} {B n c c' : Nat} {a : Addr} {l : List Nat} (h : Bv w B (.slice (some a) n c) l) (h1 : l.length ≤ c') (h2 : c' ≤ maxLen) : Bv w B (.slice (some a) n c') l := by
  obtain ⟨A', c0, e, _, _, _, h4⟩ := h
  injection e with e1 e2 e3
  subst e1 e2
  exact ⟨_, c', rfl, h1, h2, by simp, h4⟩
theorem zeros_first (R : List Nat) : (List.replicate (R.length + 4) 0).take 0 ++ R ++ (List.replicate (R.length + 4) 0).drop (0 + R.length) = R ++ List.replicate 4 0 := by
  have e : R.length + 4 - (0 + R.length) = 4 := by omega
  rw [List.drop_replicate, e]; rfl
theorem zeros_last (R S : List Nat) (hS : S.length = 4) : (R ++ List.replicate 4 0).take R.length ++ S ++ (R ++ List.replicate 4 0).drop (R.length + S.length) = R ++ S := by
  rw [List.take_left, hS, List.drop_of_length_le (by simp), List.append_nil]
theorem zeros_own {w : World} {base g n : Nat} (hb : base ≤ g) (hm : n ≤ maxLen) (h : w.ownsRow base 5 1 (.slice (some ⟨g, 0, none⟩) n n) n (madeCells (Value.int .u8 0).cells (n * 1)).toList) :
    OwnB w base (.slice (some ⟨g, 0, none⟩) (List.replicate n 0).length (List.replicate n 0).length) (List.replicate n 0) :=
  OwnB.of_heap hb (fun x hx => by rw [List.eq_of_mem_replicate hx]; decide) (by simpa using hm) (by rw [List.map_replicate]; exact zeros_heap h)

theorem lits4b_ (w : World) (n : Nat) : Bv (w.alloc (.cells #[.int .u8 (Cr.byt n 0 : Nat), .int .u8 (Cr.byt n 1 : Nat), .int .u8 (Cr.byt n 2 : Nat), .int .u8 (Cr.byt n 3 : Nat)] 49)) (w.heap.size + 1) (.slice (some ⟨w.heap.size, 0, none⟩) 4 4) (four n) := by
  refine ⟨some ⟨w.heap.size, 0, none⟩, 4, rfl, by simp [four], by simp [maxLen], by simp, four_lt n, fun _ => ⟨w.heap.size, 0, rfl, by omega, fun j c hj => ?_⟩⟩
  rw [Nat.zero_add, World.cell?_alloc_at _ _ _ _ rfl]
  have h : ((four n).map u8).toArray = #[.int .u8 (Cr.byt n 0 : Nat), .int .u8 (Cr.byt n 1 : Nat), .int .u8 (Cr.byt n 2 : Nat), .int .u8 (Cr.byt n 3 : Nat)] := rfl
  rw [← h]
  simp [hj, u8]

set_option maxHeartbeats 2000000 in
set_option maxRecDepth 100000 in
theorem fput_any (v : Value) (l : List Nat) (B : Nat) (w : World) (hB : B ≤ w.heap.size) (h : Bv w B v l) :
    Calls Try.prog 11 #[v] w (IsBEF (Fr.put l) w) := by
  by_cases hl : 65536 < l.length
  · have HX := Lib.hid (Fr.put_out hl)
    obtain ⟨A, c, rfl, _, _, _, _⟩ := h
    have hlen : (65536 : Int) < ((l.length : Nat) : Int) := by omega
    clear hl
    go_enter Try.func11, Try.ntmps11
    go_wp2
    go_ret2
    exact IsBEF.none_ HX.out
  · have HX := Lib.hid (Fr.put_in (p := l) (by omega))
    have HZ := Lib.hid (size_any (l.length : Nat) w)
    rw [Fr.size_frm (by omega)] at HZ
    have hfl := Fr.frm_len l
    have hpl := putRow_len l
    have hp10 := Mt.put_len_le l.length
    have hrow := Fr.row_lt h.lt_ (show Mt.B64 l.length by unfold Mt.B64; omega)
    have HN := Lib.hid (Cr.of_b32 hrow)
    have hF : Fr.frm l = putRow l ++ four (Cr.of (putRow l)) := rfl
    have HR : ∀ w1, Below w.heap.size w w1 → Calls Try.prog 28 #[v] w1 (IsFull (putRow l) w1) := fun w1 hb => putRow_any v l w.heap.size w1 hb.size (h.mono_ hB |>.below_ hb (Nat.le_refl _)) (by omega)
    have HRH := Lib.hid HR
    obtain ⟨R, hR⟩ : ∃ R, putRow l = R := ⟨_, rfl⟩
    rw [hR] at HRH hpl HN hF hfl
    obtain ⟨n, hn⟩ : ∃ n, Cr.of R = n := ⟨_, rfl⟩
    rw [hn] at HN hF
    rw [hfl] at HZ
    rw [hF] at HX
    have hRl : R.length ≤ 65546 := by omega
    have hE := Lib.hid hn
    obtain ⟨A, c, rfl, _, _, _, _⟩ := h
    have hlen : ((l.length : Nat) : Int) ≤ 65536 := by omega
    obtain ⟨i0, hi, hz0, hz1, hz2⟩ := info_parts info5
    have hby : i0.bytes * (R.length + 4) ≤ 281474976710656 := by rw [hz2]; omega
    have hml : R.length + 4 ≤ maxLen := by simp only [maxLen]; omega
    clear hl hpl hp10 hrow hF hR hn HR
    go_enter Try.func11, Try.ntmps11
    go_wp2_with fail
    ((with_reducible refine HZ.out.mono ?_); rintro e w1 ⟨rfl, hb1⟩)
    have HB1 := Lib.hid hb1
    have hs1 := hb1.size
    clear hb1 HZ
    go_wp2_with (at_make; go_must (refine wpList_make_full _ rfl _ _ 22 rfl w1.heap.size 5 i0 (.int .u8 0) 1 Try.underlying22 hi hz0 hz1 .i64 .i64 _ _ (R.length + 4) rfl rfl (by simp) (by simp) hby hml (Nat.le_refl _) ?_; intro w2 hown hgrow))
    have hb2 : Below w1.heap.size w1 w2 := (Below.refl _ _).grown hgrow (Nat.le_refl _) (by intro k hk; cases hk)
    have hz := zeros_own (Nat.le_refl _) hml hown
    have HZ2 := Lib.hid hz
    have HB2 := Lib.hid (HB1.out.trans (hb2.mono hs1))
    have HR := Lib.hid (HRH.out w2 HB2.out)
    have hlt : w1.heap.size < w2.heap.size := (hz.lt_ _ rfl).2
    clear hown hgrow hi hz0 hz1 hz2 hby hb2 hz HRH HB1
    ((with_reducible refine HR.out.mono ?_); rintro e w3 ⟨g3, rfl, ho3, hb3⟩)
    have hz3 := HZ2.out.below_ hb3 (Nat.le_refl _)
    obtain ⟨w4, hcp, ho4, hg4⟩ := copy_own (k := 0) (dl := R.length + 4) (dc := R.length + 4) hz3 (by simpa using hml) ho3.form_ (by simp) (by omega)
    rw [zeros_first] at ho4
    have HB4 := Lib.hid ((HB2.out.trans (hb3.mono HB2.out.size)).grown hg4 (by have := hb3.size; have := HB2.out.size; omega) (by intro k hk; cases hk; exact hs1))
    have HO4 := Lib.hid ho4
    have h4lt : w1.heap.size < w4.heap.size := by have := hb3.size; have := hg4.size; omega
    have hr := ho4.form_.take_ (k := R.length) (by simp)
    rw [List.take_left] at hr
    have HS := Lib.hid (sumOf_any _ R _ w4 (Nat.le_refl _) (hr.room_ (c' := R.length) (Nat.le_refl _) (by simp only [maxLen] at hml ⊢; omega)))
    rw [hE.out] at HS
    clear ho3 hb3 hz3 ho4 hg4 hr HR HZ2 HB2 hml
    go_wp2_with fail
    ((with_reducible refine HS.out.mono ?_); rintro e w5 ⟨rfl, hb5⟩)
    have hl4 : (R ++ List.replicate 4 0).length = R.length + 4 := by simp
    have ho5 := HO4.out.below_ hb5 (Nat.le_refl _)
    have e4 : (List.replicate (R.length + 4) 0).length = (R ++ List.replicate 4 0).length := by simp
    rw [e4] at ho5
    have ho6 := ho5.alloc_ (.cells #[.int .u8 (Cr.byt n 0 : Nat), .int .u8 (Cr.byt n 1 : Nat), .int .u8 (Cr.byt n 2 : Nat), .int .u8 (Cr.byt n 3 : Nat)] 49)
    have hsz6 : (R ++ List.replicate 4 0).length ≤ maxLen := by rw [hl4]; simp only [maxLen]; omega
    obtain ⟨w6, hcp6, ho7, hg7⟩ := copy_own (w := (w5.alloc (.cells #[.int .u8 (Cr.byt n 0 : Nat), .int .u8 (Cr.byt n 1 : Nat), .int .u8 (Cr.byt n 2 : Nat), .int .u8 (Cr.byt n 3 : Nat)] 49)).drew) (k := R.length) (dl := 4) (dc := 4) ho6 hsz6 (show Bv _ _ _ _ from lits4b_ w5 n) (by rw [hl4, four_len]; omega) (by rw [four_len]; omega)
    rw [zeros_last R (four n) (four_len n), hl4] at ho7
    rw [four_len] at hcp6
    have HB5 := Lib.hid (HB4.out.trans (hb5.mono HB4.out.size))
    have HB6 := Lib.hid ((HB5.out.alloc HB5.out.size (.cells #[.int .u8 (Cr.byt n 0 : Nat), .int .u8 (Cr.byt n 1 : Nat), .int .u8 (Cr.byt n 2 : Nat), .int .u8 (Cr.byt n 3 : Nat)] 49)).drew)
    have HB7 := Lib.hid (HB6.out.grown hg7 HB6.out.size (by intro k hk; cases hk; exact hs1))
    have HO7 := Lib.hid ho7
    clear HB4 HO4 HS hb5 ho5 ho6 ho7 hsz6 hg7 hcp e4 hl4 HB5 HB6
    have hbd0 : (0 : Int) ≤ ((R.length : Nat) : Int) := by omega
    have hbd1 : ((R.length : Nat) : Int) ≤ ((R.length : Nat) : Int) + 4 := by omega
    go_wp2
    go_region_held3 (fun _ => True) (trivial) (fail)
    go_wp2
    go_ret2
    have hO := HO7.out.mono_ hs1
    have e7 : R.length + 4 = (R ++ four n).length := by simp [four_len]
    rw [e7] at hO ⊢
    exact IsBEF.of HX.out hO HB7.out
end Go.Proofs.Yteemhdoegjdaiaa
