/-
  PgMathB: A page of which four bytes side by side are changed is none; nor are noughts.
  PgPro: What page answers.
  Put: leb.Put answers the bytes of a number, in new memory.
-/
import Derived.Test.YtoefogmjekcbeaaPk14
import Derived.Test.YtoefogmjekcbeaaPk15
import Derived.Test.YtoefogmjekcbeaaPk01
import Derived.Test.YtoefogmjekcbeaaPk11
namespace Go.Proofs.Ytoefogmjekcbeaa.Pg
/-- The number of four bytes. -/
def num4 (a b c d : Nat) : Nat := a + 256 * b + 65536 * c + 16777216 * d
theorem byt_num4 {a b c d : Nat} (ha : a < 256) (hb : b < 256) (hc : c < 256) (hd : d < 256) : Cr.byt (num4 a b c d) 0 = a ∧ Cr.byt (num4 a b c d) 1 = b ∧ Cr.byt (num4 a b c d) 2 = c ∧ Cr.byt (num4 a b c d) 3 = d := by
  unfold Cr.byt num4
  simp only [Nat.mul_zero, Nat.mul_one, Nat.reduceMul, Nat.reducePow]
  omega
theorem four_inj {m n : Nat} (hm : Cr.B32 m) (hn : Cr.B32 n) (h : four m = four n) : m = n := by
  have h1 := le_four hm
  rw [h, le_four hn] at h1
  exact h1.symm
/-- Bytes that are a page's but for four side by side are a page just if they are it. -/
theorem near {n : Int} {k : Nat} {b P Q : List Nat} (hk : k < 256) (hb : ∀ x ∈ b, x < 256) (h : putE n k b = (P, 0)) (hQ8 : ∀ x ∈ Q, x < 256) {p : Nat} (hp : p ≤ 508)
    (hat : ∀ i, ¬ (p ≤ i ∧ i < p + 4) → Q[i]? = P[i]?) (h0 : (getE n Q).2.2 = 0) : Q = P := by
  obtain ⟨hg, hP, hb4, hn0, hn1⟩ := getE_put h
  have hl : P.length = 512 := by rw [hP]; exact page_len hb4
  have hP8 : ∀ x ∈ P, x < 256 := by rw [hP]; exact page_lt hk hb
  obtain ⟨⟨k', c, e⟩, hq⟩ : ∃ r, getE n Q = r := ⟨_, rfl⟩
  rw [hq] at h0
  simp only at h0
  subst h0
  have hpq := putE_get hq
  obtain ⟨-, hQ, hc4, -, -⟩ := getE_put hpq
  have hQl : Q.length = 512 := by rw [hQ]; exact page_len hc4
  have tP : P.take 4 = four (Cr.of (P.drop 4)) := by rw [hP, page_take, page_drop]
  have tQ : Q.take 4 = four (Cr.of (Q.drop 4)) := by rw [hQ, page_take, page_drop]
  have dP8 : ∀ x ∈ P.drop 4, x < 256 := fun x hx => hP8 x (List.mem_of_mem_drop hx)
  have dQ8 : ∀ x ∈ Q.drop 4, x < 256 := fun x hx => hQ8 x (List.mem_of_mem_drop hx)
  by_cases h4 : 4 ≤ p
  · have e1 : Q.take 4 = P.take 4 := by
      apply List.ext_getElem?
      intro i
      rw [List.getElem?_take, List.getElem?_take]
      by_cases hi : i < 4
      · rw [if_pos hi, if_pos hi, hat i (by omega)]
      · rw [if_neg hi, if_neg hi]
    have e2 : Cr.of (Q.drop 4) = Cr.of (P.drop 4) := four_inj (Cr.of_b32 dQ8) (Cr.of_b32 dP8) (by rw [← tQ, ← tP, e1])
    have e3 := (Cr.of_near dQ8 dP8 (by simp [hQl, hl]) (p := p - 4) (k := 4) (Nat.le_refl _) (by
      apply List.ext_getElem?
      intro i
      rw [List.getElem?_take, List.getElem?_take]
      by_cases hi : i < p - 4
      · rw [if_pos hi, if_pos hi, List.getElem?_drop, List.getElem?_drop, hat (4 + i) (by omega)]
      · rw [if_neg hi, if_neg hi]) (by
      apply List.ext_getElem?
      intro i
      rw [List.getElem?_drop, List.getElem?_drop, List.getElem?_drop, List.getElem?_drop, hat _ (by omega)])).1 e2
    rw [← List.take_append_drop 4 Q, e1, e3, List.take_append_drop]
  · have num : ∀ i, i < 4 → Q.getD (4 + i) 0 = P.getD (4 + i) 0 := fun i hi => by
      rw [hQ, hP, page_at _ _ _ (by omega), page_at _ _ _ (by omega)]
      have : i = 0 ∨ i = 1 ∨ i = 2 ∨ i = 3 := by omega
      rcases this with rfl | rfl | rfl | rfl <;> rfl
    have e3 : Q.drop 4 = P.drop 4 := by
      apply List.ext_getElem?
      intro i
      rw [List.getElem?_drop, List.getElem?_drop]
      by_cases hi : i < 4
      · have h1 := num i hi
        rw [List.getD_eq_getElem?_getD, List.getD_eq_getElem?_getD, List.getElem?_eq_getElem (show 4 + i < Q.length by omega), List.getElem?_eq_getElem (show 4 + i < P.length by omega)] at h1
        rw [List.getElem?_eq_getElem (show 4 + i < Q.length by omega), List.getElem?_eq_getElem (show 4 + i < P.length by omega)]
        simpa using h1
      · rw [hat (4 + i) (by omega)]
    have e1 : Q.take 4 = P.take 4 := by rw [tQ, tP, e3]
    rw [← List.take_append_drop 4 Q, e1, e3, List.take_append_drop]
theorem spoilt {n : Int} {k : Nat} {b P : List Nat} (hk : k < 256) (hb : ∀ x ∈ b, x < 256) (h : putE n k b = (P, 0)) {p N : Nat} (hp : p ≤ 508) :
    (getE n (Cr.turnd P p N 4)).2.2 = 0 ↔ Cr.zer N 4 = true := by
  obtain ⟨hg, hP, hb4, hn0, hn1⟩ := getE_put h
  have hl : P.length = 512 := by rw [hP]; exact page_len hb4
  have hP8 : ∀ x ∈ P, x < 256 := by rw [hP]; exact page_lt hk hb
  have hteq := Cr.turnd_eq (l := P) (p := p) (n := N) (k := 4) (by omega)
  constructor
  · intro h0
    exact hteq.1 (near hk hb h (Cr.turnd_lt hP8 p N 4) hp (fun i hi => by rw [Cr.turnd_at P p N 4 (by omega), if_neg hi]) h0)
  · intro hz
    rw [hteq.2 hz, hg]
/-- One byte of a page is another one: none. -/
theorem one {n : Int} {k : Nat} {b P : List Nat} (hk : k < 256) (hb : ∀ x ∈ b, x < 256) (h : putE n k b = (P, 0)) {p y : Nat} (hp : p < 512) (hy : y < 256) (hne : P[p]? ≠ some y) :
    (getE n (P.set p y)).2.2 ≠ 0 := by
  intro h0
  obtain ⟨-, hP, hb4, -, -⟩ := getE_put h
  have hl : P.length = 512 := by rw [hP]; exact page_len hb4
  have hP8 : ∀ x ∈ P, x < 256 := by rw [hP]; exact page_lt hk hb
  have hQ8 : ∀ x ∈ P.set p y, x < 256 := fun x hx => by
    rcases List.mem_or_eq_of_mem_set hx with h | rfl
    · exact hP8 x h
    · exact hy
  have e := near (p := min p 508) hk hb h hQ8 (by omega) (fun i hi => by rw [List.getElem?_set, if_neg (by omega)]) h0
  apply hne
  rw [← e, List.getElem?_set, if_pos rfl, if_pos (by omega)]
theorem nz0 : Cr.raw 4294967295 (List.replicate 64 0) = 4231468184 := by decide +kernel
theorem nz1 : Cr.raw 4231468184 (List.replicate 64 0) = 4158167844 := by decide +kernel
theorem nz2 : Cr.raw 4158167844 (List.replicate 64 0) = 2345306063 := by decide +kernel
theorem nz3 : Cr.raw 2345306063 (List.replicate 64 0) = 1200442991 := by decide +kernel
theorem nz4 : Cr.raw 1200442991 (List.replicate 64 0) = 64332339 := by decide +kernel
theorem nz5 : Cr.raw 64332339 (List.replicate 64 0) = 1158271177 := by decide +kernel
theorem nz6 : Cr.raw 1158271177 (List.replicate 64 0) = 3425213895 := by decide +kernel
theorem nz7 : Cr.raw 3425213895 (List.replicate 60 0) = 329799228 := by decide +kernel
theorem noughts_raw : Cr.raw 4294967295 (List.replicate 508 0) = 329799228 := by
  have e : ∀ j : Nat, List.replicate (64 + j) 0 = List.replicate 64 0 ++ List.replicate j 0 := fun j => (List.replicate_append_replicate ..).symm
  rw [show 508 = 64 + 444 from rfl, e, Cr.raw_append, nz0, show 444 = 64 + 380 from rfl, e, Cr.raw_append, nz1, show 380 = 64 + 316 from rfl, e, Cr.raw_append, nz2, show 316 = 64 + 252 from rfl, e, Cr.raw_append, nz3, show 252 = 64 + 188 from rfl, e, Cr.raw_append, nz4, show 188 = 64 + 124 from rfl, e, Cr.raw_append, nz5, show 124 = 64 + 60 from rfl, e, Cr.raw_append, nz6, nz7]
theorem noughts_sum : four (Cr.of (List.replicate 508 0)) ≠ [0, 0, 0, 0] := by
  intro h
  have h32 : Cr.B32 (Cr.of (List.replicate 508 0)) := Cr.of_b32 (fun x hx => by rw [List.eq_of_mem_replicate hx]; omega)
  have h0 := four_inj h32 Cr.zero_b32 (h.trans (by decide))
  rw [Cr.of_eq, Cr.ones_eq, noughts_raw, Cr.flip_eq, Cr.ones_eq] at h0
  exact absurd h0 (by decide)
theorem noughts (n : Int) : (getE n (List.replicate 512 0)).2.2 ≠ 0 := by
  intro h
  obtain ⟨⟨k', c, e⟩, hq⟩ : ∃ r, getE n (List.replicate 512 0) = r := ⟨_, rfl⟩
  rw [hq] at h
  simp only at h
  subst h
  obtain ⟨-, hQ, hc4, -, -⟩ := getE_put (putE_get hq)
  have t : (List.replicate 512 0).take 4 = four (Cr.of ((List.replicate 512 0).drop 4)) := by rw [hQ, page_take, page_drop]
  rw [List.drop_replicate, List.take_replicate] at t
  exact noughts_sum t.symm
end Go.Proofs.Ytoefogmjekcbeaa.Pg

namespace Go.Proofs.Ytoefogmjekcbeaa
open Go.RowKit
set_option linter.unusedVariables false

/-- A call that answers these bytes in new memory, and turns nothing that was there. -/
def IsFresh (l : List Nat) (w : World) (e : Ending) (w' : World) : Prop :=
  ∃ A c, e = .returned (.slice A l.length c) ∧ OwnB w' w.heap.size (.slice A l.length c) l ∧ Below w.heap.size w w'

set_option maxHeartbeats 400000 in
set_option maxRecDepth 100000 in
theorem put_any (n : Nat) (hn : Mt.B64 n) (w : World) :
    Calls Try.prog 32 #[.int .u64 n] w (IsFresh (Mt.put n) w) := by
  have hlen := Mt.put_len_le n
  obtain ⟨i0, hi, hz0, hz1, hz2⟩ := info_parts info5
  go_enter Try.func32, Try.ntmps32
  have hb2 : i0.bytes * (Mt.put n).length ≤ 281474976710656 := by rw [hz2]; omega
  have hm3 : (Mt.put n).length ≤ maxLen := by simp only [maxLen]; omega
  clear hlen
  go_wp2_with (first | (go_at_call 42; refine (len_any _ hn _).mono ?_; rintro e w' ⟨rfl, rfl⟩) | (at_make; go_must (refine wpList_make_own _ rfl _ _ 25 rfl w.heap.size 5 i0 (.int .u8 0) 1 Try.underlying25 hi hz0 hz1 .i64 .i64 _ (Mt.put n).length rfl rfl rfl hb2 hm3 (Nat.le_refl _) ?_; intro w1 hown hgrow)))
  have how : OwnB w1 w.heap.size (.slice (some ⟨w.heap.size, 0, none⟩) 0 (Mt.put n).length) [] := ⟨by simp, hown⟩
  have hbel : Below w.heap.size w w1 := (Below.refl _ _).grown hgrow (Nat.le_refl _) (by intro k hk; cases hk)
  clear hown hgrow hb2 hm3
  go_loopw [0, 3] (fun m v wr => ∃ (q : Nat) (l : List Nat), m = .int .u64 q ∧ Hid (Mt.B64 q) ∧ Hid (OwnB wr w.heap.size v l) ∧ Hid (Mt.put n = l ++ Mt.put q) ∧ Below w.heap.size w wr) (fun m _ _ => (intOf m).toNat)
  case atStart => exact ⟨n, [], rfl, hn, how, rfl, hbel⟩
  case round =>
    obtain ⟨q, l, rfl, HQ, HO, HP, hbr⟩ := hrel
    clear how hbel hi hz0 hz1 hz2
    have hbase : w.heap.size ≤ wr.heap.size := hbr.size
    have hl10 : l.length ≤ 10 := by
      have h1 := Mt.put_len_le n
      rw [HP.out, List.length_append] at h1
      omega
    by_cases h : 128 ≤ q
    · have HP2 : Hid (Mt.put n = (l ++ [q % 128 + 128]) ++ Mt.put (q / 128)) := by
        unfold Hid
        rw [HP.out, Mt.put_step h HQ.out]
        simp
      have HQ2 : Hid (Mt.B64 (q / 128)) := Mt.b64_div HQ.out
      have hown1 := HO.out.alloc_ (.cells #[.int .u8 (bits BinOp.or IntKind.u8 ((q : Int) % 256) 128)] 5)
      have hsrc := Bv.one_ wr (or128 q) (by omega)
      have hbel1 := hbr.alloc hbase (.cells #[.int .u8 (bits BinOp.or IntKind.u8 ((q : Int) % 256) 128)] 5)
      have HO1 := Lib.hid hown1
      have HS := Lib.hid hsrc
      have HB := Lib.hid hbel1
      clear hown1 hsrc hbel1 HP HO HQ hn
      go_wp2_with (at_builtin; go_must (refine wpList_append_bytes _ rfl _ _ rfl rfl w.heap.size _ rfl l HO1.out _ rfl _ [q % 128 + 128] HS.out (by simp; omega) (by simp; omega) ?_; intro A c w2 hA))
      go_roundw
      case rel => exact ⟨q / 128, l ++ [q % 128 + 128], by simp, HQ2, (by simpa [Hid] using hA.own), HP2, HB.out.grown hA.grown (by simp; omega) (fun k hk => (HO1.out.lt_ k hk).1)⟩
      case measure => simp [intOf]; omega
    · have HP2 : Hid (Mt.put n = l ++ [q]) := by
        unfold Hid
        rw [HP.out, Mt.put_small (by omega)]
      have hown1 := HO.out.alloc_ (.cells #[.int .u8 (q : Int)] 5)
      have hsrc := Bv.one_ wr (x := (q : Int)) (c := q) rfl (by omega)
      have hbel1 := hbr.alloc hbase (.cells #[.int .u8 (q : Int)] 5)
      have HO1 := Lib.hid hown1
      have HS := Lib.hid hsrc
      have HB := Lib.hid hbel1
      clear hown1 hsrc hbel1 HP HO HQ hn
      go_wp2_with (at_builtin; go_must (refine wpList_append_bytes _ rfl _ _ rfl rfl w.heap.size _ rfl l HO1.out _ rfl _ [q] HS.out (by simp; omega) (by simp; omega) ?_; intro A c w2 hA))
      go_ret
      exact ⟨A, c, by rw [HP2.out]; simp, by rw [HP2.out]; exact hA.own, HB.out.grown hA.grown (by simp; omega) (fun k hk => (HO1.out.lt_ k hk).1)⟩
end Go.Proofs.Ytoefogmjekcbeaa
