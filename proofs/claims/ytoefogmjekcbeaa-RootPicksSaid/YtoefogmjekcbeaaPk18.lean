/-
  RPgB: stookref15.Get.
  RPut: stookref01.Put answers the bytes of a number, in new memory.
  RtMath: Plain mathematics of chapter 16 (root).
-/
import Derived.Test.YtoefogmjekcbeaaPk17
import Derived.Test.YtoefogmjekcbeaaPk10
import Derived.Test.YtoefogmjekcbeaaPk06
import Derived.Test.YtoefogmjekcbeaaPk12
import Derived.Test.YtoefogmjekcbeaaPk07
import Derived.Deep.RegionHeld3
import Derived.Deep.QuietTactic
import Derived.BigQuiet
import Derived.Test.YtoefogmjekcbeaaPk16
import Derived.Test.YtoefogmjekcbeaaPk11
namespace Go.Proofs.Ytoefogmjekcbeaa
open Go.RowKit
set_option linter.unusedVariables false
set_option maxHeartbeats 2000000 in
set_option maxRecDepth 100000 in
theorem rpgget_any (n : Int) (v : Value) (b : List Nat) (B : Nat) (w : World) (hv : Lv yK w B v b) (hB : B ≤ w.heap.size) :
    Calls Try.prog 26 #[.int .i64 n, v] w (IsKL (Pg.getE n b) w) := by
  have HV := Lib.hid hv
  have hb8 : ∀ x ∈ b, x < 256 := fun x hx => hv.ok_ x hx
  have HB8 := Lib.hid hb8
  have HBB := Lib.hid hB
  obtain ⟨A, c, rfl, k1, k2, -, -, hin⟩ := id hv
  have hll : b.length ≤ 9223372036854775807 := by simp only [maxLen] at k2; omega
  clear hB hv
  by_cases h0 : n < 0
  · have HE := Lib.hid (Pg.getE_arg (b := b) (.inl h0))
    clear hin k1 k2
    go_enter Try.func26, Try.ntmps26
    go_wp2
    go_ret3
    exact IsKL.none_b HE.out rfl rfl (Below.refl _ _)
  by_cases h1 : 65536 ≤ n
  · have HE := Lib.hid (Pg.getE_arg (b := b) (.inr h1))
    clear hin k1 k2
    go_enter Try.func26, Try.ntmps26
    go_wp2
    go_ret3
    exact IsKL.none_b HE.out rfl rfl (Below.refl _ _)
  have hg : ¬ (n < 0 ∨ 65536 ≤ n) := by omega
  by_cases h2 : b.length < 512
  · have HE := Lib.hid (Pg.getE_short hg h2)
    have hi : (b.length : Int) < 512 := by omega
    clear hin k1 k2 h2 hg
    go_enter Try.func26, Try.ntmps26
    go_wp2
    go_ret3
    exact IsKL.none_b HE.out rfl rfl (Below.refl _ _)
  by_cases h3 : 512 < b.length
  · have HE := Lib.hid (Pg.getE_long hg h2 h3)
    have hi : ¬ (b.length : Int) < 512 := by omega
    have hj : (512 : Int) < (b.length : Int) := by omega
    clear hin k1 k2 h2 h3 hg
    go_enter Try.func26, Try.ntmps26
    go_wp2
    go_ret3
    exact IsKL.none_b HE.out rfl rfl (Below.refl _ _)
  obtain ⟨bb, off, rfl, hbl, hcell⟩ := hin (by omega)
  have hlen : b.length = 512 := by omega
  have HL := Lib.hid hlen
  have hc512 : 512 ≤ c := by omega
  have hcm : c ≤ maxLen := k2
  simp only [maxLen] at hcm
  rw [hlen] at HV ⊢
  have HG := Lib.hid hg
  have H2 : Hid (¬ b.length < 512 ∧ ¬ 512 < b.length) := ⟨h2, h3⟩
  have HN4 := Lib.hid (Cr.of_b32 (l := b.drop 4) (fun x hx => hb8 x (List.mem_of_mem_drop hx)))
  obtain ⟨n4, hn4⟩ : ∃ x, Cr.of (b.drop 4) = x := ⟨_, rfl⟩
  rw [hn4] at HN4
  have hS4 : Bv w B (.slice (some ⟨bb, off + 4, none⟩) 508 (c - 4)) (b.drop 4) := by
    have h := (HV.out.bv_).cut_ (k := 4) (m := 508) (by omega)
    rwa [List.take_of_length_le (by rw [List.length_drop]; omega)] at h
  have hT4 : Lv yK w B (.slice (some ⟨bb, off, none⟩) 4 c) (b.take 4) := HV.out.take_ (by omega)
  have HC : Hid (∀ w', Below w.heap.size w w' → ∀ (i x : Nat), b[i]? = some x → w'.cell? ⟨bb, off + i, none⟩ = some (.int .u8 (x : Nat))) := fun w' hb' i x hx => by
    obtain ⟨b1, o1, y, e1, h1, _, hy, hcl⟩ := (HV.out.below_ hb' HBB.out).byte_ (k := i) (List.getElem?_eq_some_iff.1 hx).1
    injection e1 with e1
    injection e1 with e1 e2
    subst e1 e2
    rw [hx] at hy
    injection hy with hy
    rw [hy]
    exact hcl
  have HT4 := Lib.hid hT4
  have J1 := Lib.hid (rof_any _ _ B w.drew hS4)
  rw [hn4] at J1
  have X0 : Hid (Below w.heap.size w w.drew) := (Below.refl _ _).drew
  have g0 : ¬ n < 0 := h0
  have g1 : ¬ 65536 ≤ n := h1
  have i1 : (4 : Int) ≤ (c : Int) := by omega
  have i2 : ¬ c = 4 := by omega
  obtain ⟨q, hq⟩ : ∃ q, decide (b.take 4 = four n4) = q := ⟨_, rfl⟩
  have HQ := Lib.hid hq
  have HN := Lib.hid hn4
  clear hin k1 k2 h2 h3 hg hcell hbl hb8 hS4 hT4 hlen hn4 hq h0 h1
  go_enter Try.func26, Try.ntmps26
  go_wp2
  go_region_held3 (fun _ => True) (trivial) (first
    | (go_at_call 34; (with_reducible refine J1.out.mono ?_); rintro e x1 ⟨rfl, rfl⟩; have J2 := Lib.hid (rfour_any n4 HN4.out w.drew))
    | (go_at_call 33; (with_reducible refine J2.out.mono ?_); rintro e x2 ⟨A2, c2, rfl, o2, b2⟩; have X2 := Lib.hid (X0.out.trans (b2.mono X0.out.size)); have J3 := Lib.hid (octs_lv _ _ (b.take 4) (four n4) B x2.heap.size x2 (HT4.out.below_ X2.out HBB.out) o2.form_); rw [HQ.out] at J3; clear o2 b2)
    | (go_at_call 8; (with_reducible refine J3.out.mono ?_); rintro e x3 ⟨rfl, b3⟩; have X3 := Lib.hid (X2.out.trans (b3.mono X2.out.size)); clear b3))
  clear J1 J2 J3 X2 X0
  cases q with
  | false =>
    have HE : Hid (Pg.getE n b = (0, [], 6)) := Pg.getE_sum HG.out H2.out.1 H2.out.2 (by rw [HN.out]; exact of_decide_eq_false HQ.out)
    go_wp2
    go_ret3
    exact IsKL.none_b HE.out rfl rfl X3.out
  | true =>
    have H3 : Hid (b.take 4 = four (Cr.of (b.drop 4))) := by unfold Hid; rw [HN.out]; exact of_decide_eq_true HQ.out
    have hl := HL.out
    obtain ⟨y10, hy10⟩ : ∃ y, b[10]? = some y := ⟨_, List.getElem?_eq_getElem (by omega)⟩
    obtain ⟨y11, hy11⟩ : ∃ y, b[11]? = some y := ⟨_, List.getElem?_eq_getElem (by omega)⟩
    obtain ⟨y8, hy8⟩ : ∃ y, b[8]? = some y := ⟨_, List.getElem?_eq_getElem (by omega)⟩
    have l10 : y10 < 256 := HB8.out _ (List.mem_of_getElem? hy10)
    have l11 : y11 < 256 := HB8.out _ (List.mem_of_getElem? hy11)
    have L8 : Hid (y8 < 256) := HB8.out _ (List.mem_of_getElem? hy8)
    have c10 := HC.out x3 X3.out 10 y10 hy10
    have c11 := HC.out x3 X3.out 11 y11 hy11
    obtain ⟨m, hm⟩ : ∃ m, y10 + 256 * y11 = m := ⟨_, rfl⟩
    have hsz : Pg.size b = m := by
      unfold Pg.size
      rw [List.getD_eq_getElem?_getD, List.getD_eq_getElem?_getD, hy10, hy11]
      exact hm
    have HSZ := Lib.hid hsz
    have w1 : IntKind.i64.wrap (256 * (y11 : Int)) = 256 * (y11 : Int) := by rw [IntKind.wrap_i64]; omega
    have w2 : (y10 : Int) + 256 * (y11 : Int) = (m : Int) := by omega
    have w3 : IntKind.i64.wrap (m : Int) = (m : Int) := by rw [IntKind.wrap_i64]; omega
    have HY8 : Hid (b.getD 8 0 = y8) := by unfold Hid; rw [List.getD_eq_getElem?_getD, hy8]; rfl
    have HY := Lib.hid hy8
    clear hl hy10 hy11 hy8 hsz hm
    go_wp2
    go_quiet (fail)
    generalize hW : x3.drewN _ = W
    have XW : Hid (Below w.heap.size w W) := by unfold Hid; rw [← hW]; exact below_drewN X3.out _
    clear hW X3 c10 c11
    by_cases h4 : 496 < m
    · have h4i : (496 : Int) < (m : Int) := by omega
      have HE : Hid (Pg.getE n b = (0, [], 5)) := Pg.getE_size HG.out H2.out.1 H2.out.2 H3.out (by rw [HSZ.out]; exact h4)
      go_wp2
      go_ret3
      exact IsKL.none_b HE.out rfl rfl XW.out
    · have h4i : ¬ (496 : Int) < (m : Int) := by omega
      have H4 : Hid (¬ 496 < Pg.size b) := by unfold Hid; rw [HSZ.out]; exact h4
      have w4 : IntKind.i64.wrap (12 + (m : Int)) = 12 + (m : Int) := by rw [IntKind.wrap_i64]; omega
      have w5 : (12 : Int) ≤ 12 + (m : Int) := by omega
      have w6 : 12 + (m : Int) ≤ (c : Int) := by omega
      have w7 : (0 : Int) ≤ 12 + (m : Int) := by omega
      have w8 : (12 + (m : Int)).toNat = 12 + m := by omega
      have w9 : ¬ c = 12 := by omega
      have hbd : (b.drop 12).take m = Pg.body b := by unfold Pg.body; rw [HSZ.out]
      have hcut : Bv W B (.slice (some ⟨bb, off + 12, none⟩) m (c - 12)) (Pg.body b) := by
        have h := ((HV.out.below_ XW.out HBB.out).bv_).cut_ (k := 12) (m := m) (by have := HL.out; omega)
        rwa [hbd] at h
      have hbl : (Pg.body b).length = m := by rw [← hbd, List.length_take, List.length_drop]; have := HL.out; omega
      obtain ⟨y, hy⟩ : ∃ y, Pg.body b = y := ⟨_, rfl⟩
      rw [hy] at hcut hbl
      have HYB := Lib.hid hy
      have HBL := Lib.hid hbl
      have JC := Lib.hid (copyO_any _ y B W hcut.lv_ (by omega))
      clear hbd hcut hy hbl
      go_wp2_with fail
      refine JC.out.mono ?_
      rintro e w4 ⟨A4, c4, rfl, o4, b4⟩
      have X4 := Lib.hid (XW.out.trans (b4.mono XW.out.size))
      have d8 := HC.out w4 X4.out 8 y8 HY.out
      have hpe := Pg.putE_ok (n := n) (k := y8) (b := y) HG.out (by have := HBL.out; have := H4.out; have := HSZ.out; omega)
      obtain ⟨p, hp⟩ : ∃ p, Pg.page n.toNat y8 y = p := ⟨_, rfl⟩
      rw [hp] at hpe
      have HPP := Lib.hid hp
      have HP := Lib.hid (rpgput_any n y8 _ y w4.heap.size w4 L8.out o4.form_ (Nat.le_refl _))
      rw [hpe] at HP
      have HO4 := Lib.hid (o4.mono_ XW.out.size)
      clear JC o4 b4 hpe hp
      go_wp2_with fail
      refine HP.out.mono ?_
      rintro e w5 ⟨A5, c5, rfl, o5, b5⟩
      have X5 := Lib.hid (X4.out.trans (b5.mono X4.out.size))
      have HO5 := Lib.hid (HO4.out.below_ b5 (Nat.le_refl _))
      have JS := Lib.hid (octs_lv _ _ p b w5.heap.size B w5 o5.form_ (HV.out.below_ X5.out HBB.out))
      obtain ⟨q2, hq2⟩ : ∃ q, decide (p = b) = q := ⟨_, rfl⟩
      rw [hq2] at JS
      have HQ2 := Lib.hid hq2
      clear HP o5 b5 hq2 X4 HO4 d8
      go_wp2_with fail
      refine JS.out.mono ?_
      rintro e w6 ⟨rfl, b6⟩
      have X6 := Lib.hid (X5.out.trans (b6.mono X5.out.size))
      have HO6 := Lib.hid (HO5.out.below_ b6 (Nat.le_refl _))
      clear JS b6 X5 HO5
      cases q2 with
      | false =>
        have HE : Hid (Pg.getE n b = (0, [], 5)) := Pg.getE_form HG.out H2.out.1 H2.out.2 H3.out H4.out (by rw [HY8.out, HYB.out, HPP.out]; exact of_decide_eq_false HQ2.out)
        go_wp2
        go_ret3
        exact IsKL.none_b HE.out rfl rfl X6.out
      | true =>
        have HE : Hid (Pg.getE n b = (y8, y, 0)) := by
          have := Pg.getE_ok HG.out H2.out.1 H2.out.2 H3.out H4.out (by rw [HY8.out, HYB.out, HPP.out]; exact of_decide_eq_true HQ2.out)
          rwa [HY8.out, HYB.out] at this
        have e8 := HC.out w6 X6.out 8 y8 HY.out
        go_wp2
        go_ret3
        exact IsKL.of HE.out rfl rfl HO6.out X6.out
end Go.Proofs.Ytoefogmjekcbeaa
namespace Go.Proofs.Ytoefogmjekcbeaa
open Go.RowKit
set_option linter.unusedVariables false

theorem OwnB.fresh {w w' : World} {v : Value} {l : List Nat} (h : OwnB w' w.heap.size v l) (hb : Below w.heap.size w w') : IsFresh l w (.returned v) w' := by
  obtain ⟨A, c, rfl, _⟩ := h.form_
  exact ⟨A, c, rfl, h, hb⟩

set_option maxHeartbeats 400000 in
set_option maxRecDepth 100000 in
theorem rput_small (n : Nat) (hn : n < 128) (w : World) :
    Calls Try.prog 21 #[.int .u64 n] w (IsFresh (Mt.put n) w) := by
  have HP := Lib.hid (Mt.put_small hn)
  go_enter Try.func21, Try.ntmps21
  go_wp2
  go_ret
  have h := OwnB.lit_ w (Nat.le_refl _) (c := n) rfl (by omega)
  rw [HP.out]
  exact h.fresh ((Below.refl _ _).alloc (Nat.le_refl _) _)

theorem wrap_div (n : Nat) (hb : Mt.B64 n) : IntKind.u64.wrap ((n : Int) / 128) = ((n / 128 : Nat) : Int) := by
  unfold Mt.B64 at hb
  rw [IntKind.wrap_u64]
  omega

set_option maxHeartbeats 400000 in
set_option maxRecDepth 100000 in
theorem rput_any (k : Nat) : ∀ (n : Nat) (w : World), n < 128 ^ (k + 1) → Mt.B64 n →
    Calls Try.prog 21 #[.int .u64 n] w (IsFresh (Mt.put n) w) := by
  induction k with
  | zero => intro n w h _; exact rput_small n (by simpa using h) w
  | succ k ih =>
    intro n w h hb
    by_cases hn : n < 128
    · exact rput_small n hn w
    · have HP := Lib.hid (Mt.put_step (by omega) hb)
      have hq : n / 128 < 128 ^ (k + 1) := by rw [Nat.div_lt_iff_lt_mul (by decide)]; rw [Nat.pow_succ] at h; exact h
      have HI := Lib.hid (ih (n / 128) (w.alloc (.cells #[.int .u8 ((n : Int) % 128 + 128)] 5)) hq (Mt.b64_div hb))
      have hl := Mt.put_len_le (n / 128)
      have HW := Lib.hid (wrap_div n hb)
      have ho := Lib.hid (OwnB.lit_ w (Nat.le_refl _) (c := n % 128 + 128) (x := (n : Int) % 128 + 128) (by omega) (by omega))
      have hbel := Lib.hid ((Below.refl w.heap.size w).alloc (Nat.le_refl _) (.cells #[.int .u8 ((n : Int) % 128 + 128)] 5))
      clear ih h hb hq
      go_enter Try.func21, Try.ntmps21
      go_wp2_with fail
      rw [HW.out]
      ((with_reducible refine HI.out.mono ?_); rintro e w1 ⟨A, c, rfl, hown, hb1⟩)
      have hsrc := Lib.hid hown.form_
      have ho1 := Lib.hid (ho.out.below_ hb1 (Nat.le_refl _))
      have hb2 := Lib.hid (hbel.out.trans (hb1.mono (by simp)))
      have hsz : w.heap.size ≤ w1.heap.size := by have := hb1.size; simp at this; omega
      clear hown hb1 ho hbel
      go_wp2_with (at_builtin; go_must (refine wpList_append_bytes _ rfl _ _ rfl rfl w.heap.size _ rfl [n % 128 + 128] ho1.out _ rfl _ (Mt.put (n / 128)) hsrc.out (by simp; omega) hsz ?_; intro A2 c2 w2 hA))
      go_ret
      have hO := hA.own
      have hB : Below w.heap.size w w2 := hb2.out.grown hA.grown hsz (fun k hk => (ho1.out.lt_ k hk).1)
      have hf := hO.fresh hB
      rw [HP.out]
      simpa using hf
end Go.Proofs.Ytoefogmjekcbeaa
namespace Go.Proofs.Ytoefogmjekcbeaa.Rt
structure Root where
  seq : Nat
  page : Int
  pages : Int
  lsn : Nat
  next : Nat
  shard : Int
  tail : Int
  deriving DecidableEq
def zero : Root := ⟨0, 0, 0, 0, 0, 0, 0⟩
def May (r : Root) : Prop :=
  1 ≤ r.seq ∧ r.seq ≤ 4611686018427387904 ∧ 2 ≤ r.pages ∧ r.pages ≤ 65536 ∧ r.lsn ≤ 4611686018427387904 ∧ (r.page = 0 ∨ 2 ≤ r.page ∧ r.page ≤ r.pages - 1) ∧
  1 ≤ r.next ∧ r.next ≤ 4294967296 ∧ 0 ≤ r.shard ∧ r.shard ≤ 2147483647 ∧ 0 ≤ r.tail ∧ r.tail ≤ 1048576
instance (r : Root) : Decidable (May r) := inferInstanceAs (Decidable (_ ∧ _))
def nums (r : Root) : List Nat := [r.seq, r.page.toNat, r.pages.toNat, r.lsn, r.next, r.shard.toNat, r.tail.toNat]
def bys : List Nat → List Nat
  | [] => []
  | n :: l => Mt.put n ++ bys l
theorem bys_snoc (l : List Nat) (n : Nat) : bys (l ++ [n]) = bys l ++ Mt.put n := by
  induction l with
  | nil => simp [bys]
  | cons x l ih => simp [bys, ih]
theorem bys_len (l : List Nat) : (bys l).length ≤ 10 * l.length := by
  induction l with
  | nil => simp [bys]
  | cons x l ih => simp only [bys, List.length_append, List.length_cons]; have := Mt.put_len_le x; omega
theorem bys_lt {l : List Nat} (h : ∀ n ∈ l, Mt.B64 n) : ∀ x ∈ bys l, x < 256 := by
  induction l with
  | nil => intro x hx; cases hx
  | cons n l ih =>
    intro x hx
    rcases List.mem_append.1 hx with h1 | h1
    · exact Mt.put_lt (h n (by simp)) x h1
    · exact ih (fun m hm => h m (by simp [hm])) x h1
def Bad (i n : Nat) : Prop := i ≠ 0 ∧ i ≠ 3 ∧ 8589934592 < n
instance (i n : Nat) : Decidable (Bad i n) := inferInstanceAs (Decidable (_ ∧ _))
/-- k numbers from a place on, those behind i others. -/
def rd (b : List Nat) : Nat → Nat → Nat → List Nat → Option (List Nat × Nat)
  | 0, _, a, l => some (l, a)
  | k + 1, i, a, l => if (Mt.get b (a : Nat)).2.2 ≠ 0 ∨ Bad i (Mt.get b (a : Nat)).1 then none else rd b k (i + 1) (Mt.get b (a : Nat)).2.1 (l ++ [(Mt.get b (a : Nat)).1])
theorem rd_put : ∀ (ns : List Nat) (x y : List Nat) (i : Nat) (l : List Nat), (∀ n ∈ ns, Mt.B64 n) → (∀ j n, ns[j]? = some n → ¬ Bad (i + j) n) →
    rd (x ++ bys ns ++ y) ns.length i x.length l = some (l ++ ns, x.length + (bys ns).length) := by
  intro ns
  induction ns with
  | nil => intro x y i l _ _; simp [rd, bys]
  | cons n ns ih =>
    intro x y i l hB hbad
    have hg := Mt.get_put (hB n (by simp)) x (bys ns ++ y)
    have e : x ++ bys (n :: ns) ++ y = x ++ Mt.put n ++ (bys ns ++ y) := by simp [bys]
    rw [e, List.length_cons, rd, hg]
    rw [if_neg (by
      intro h
      rcases h with h | h
      · exact h rfl
      · exact hbad 0 n rfl (by simpa using h))]
    have hi := ih (x ++ Mt.put n) y (i + 1) (l ++ [n]) (fun m hm => hB m (by simp [hm])) (fun j m hm => by
      have := hbad (j + 1) m (by simpa using hm)
      rwa [show i + 1 + j = i + (j + 1) by omega])
    rw [List.length_append] at hi
    rw [show x ++ Mt.put n ++ (bys ns ++ y) = x ++ Mt.put n ++ bys ns ++ y by simp]
    show rd _ ns.length (i + 1) (x.length + (Mt.put n).length) (l ++ [n]) = _
    rw [hi]
    simp [bys, Nat.add_assoc]
def ofN (l : List Nat) : Root := ⟨l.getD 0 0, (l.getD 1 0 : Nat), (l.getD 2 0 : Nat), l.getD 3 0, l.getD 4 0, (l.getD 5 0 : Nat), (l.getD 6 0 : Nat)⟩
theorem ofN_nums {r : Root} (h : May r) : ofN (nums r) = r := by
  obtain ⟨h1, h2, h3, h4, h5, h6, h7, h8, h9, h10, h11, h12⟩ := h
  cases r with
  | mk a b c d e f g =>
    simp only at h3 h6 h9 h11
    simp only [nums, ofN, Root.mk.injEq]
    refine ⟨rfl, ?_, ?_, rfl, rfl, ?_, ?_⟩ <;> simp <;> omega
def putE (r : Root) : List Nat × Nat := if May r then Pg.putE ((r.seq % 2 : Nat) : Int) 1 (bys (nums r)) else ([], 2)
def getE (place : Int) (b : List Nat) : Root × Nat :=
  if place ≠ 0 ∧ place ≠ 1 then (zero, 2)
  else if (Pg.getE place b).2.2 ≠ 0 then (zero, (Pg.getE place b).2.2)
  else if (Pg.getE place b).1 ≠ 1 then (zero, 5)
  else match rd (Pg.getE place b).2.1 7 0 0 [] with
    | none => (zero, 5)
    | some (l, a) => if a = (Pg.getE place b).2.1.length ∧ May (ofN l) ∧ (((ofN l).seq % 2 : Nat) : Int) = place then (ofN l, 0) else (zero, 5)
def pickE (a b : List Nat) : Root × Nat :=
  if (getE 0 a).2 ≠ 0 ∧ (getE 1 b).2 ≠ 0 then (zero, 7)
  else if (getE 0 a).2 = 0 ∧ ((getE 1 b).2 ≠ 0 ∨ (getE 1 b).1.seq < (getE 0 a).1.seq) then ((getE 0 a).1, 0) else ((getE 1 b).1, 0)
section
variable {place : Int} {b c : List Nat} {k e : Nat}
theorem getE_arg (h : place ≠ 0 ∧ place ≠ 1) : getE place b = (zero, 2) := if_pos h
theorem getE_page (h : ¬ (place ≠ 0 ∧ place ≠ 1)) (hp : Pg.getE place b = (k, c, e)) (he : e ≠ 0) : getE place b = (zero, e) := by unfold getE; rw [if_neg h, hp, if_pos he]
theorem getE_kind (h : ¬ (place ≠ 0 ∧ place ≠ 1)) (hp : Pg.getE place b = (k, c, 0)) (hk : k ≠ 1) : getE place b = (zero, 5) := by unfold getE; rw [if_neg h, hp, if_neg (by simp), if_pos hk]
theorem getE_none (h : ¬ (place ≠ 0 ∧ place ≠ 1)) (hp : Pg.getE place b = (1, c, 0)) (hr : rd c 7 0 0 [] = none) : getE place b = (zero, 5) := by
  unfold getE; rw [if_neg h, hp, if_neg (by simp), if_neg (by simp)]; simp only [hr]
theorem getE_bad {l : List Nat} {a : Nat} (h : ¬ (place ≠ 0 ∧ place ≠ 1)) (hp : Pg.getE place b = (1, c, 0)) (hr : rd c 7 0 0 [] = some (l, a)) (hx : ¬ (a = c.length ∧ May (ofN l) ∧ (((ofN l).seq % 2 : Nat) : Int) = place)) : getE place b = (zero, 5) := by
  unfold getE; rw [if_neg h, hp, if_neg (by simp), if_neg (by simp)]; simp only [hr]; rw [if_neg hx]
theorem getE_ok {l : List Nat} {a : Nat} (h : ¬ (place ≠ 0 ∧ place ≠ 1)) (hp : Pg.getE place b = (1, c, 0)) (hr : rd c 7 0 0 [] = some (l, a)) (hx : a = c.length ∧ May (ofN l) ∧ (((ofN l).seq % 2 : Nat) : Int) = place) : getE place b = (ofN l, 0) := by
  unfold getE; rw [if_neg h, hp, if_neg (by simp), if_neg (by simp)]; simp only [hr]; rw [if_pos hx]
end
theorem nums_b64 {r : Root} (h : May r) : ∀ n ∈ nums r, Mt.B64 n := by
  obtain ⟨h1, h2, h3, h4, h5, h6, h7, h8, h9, h10, h11, h12⟩ := h
  intro n hn
  simp only [nums, List.mem_cons, List.not_mem_nil, or_false] at hn
  unfold Mt.B64
  rcases hn with rfl | rfl | rfl | rfl | rfl | rfl | rfl <;> omega
theorem nums_ok {r : Root} (h : May r) : ∀ j n, (nums r)[j]? = some n → ¬ Bad (0 + j) n := by
  obtain ⟨h1, h2, h3, h4, h5, h6, h7, h8, h9, h10, h11, h12⟩ := h
  intro j n hj
  unfold Bad
  match j with
  | 0 => omega
  | 1 => simp [nums] at hj; omega
  | 2 => simp [nums] at hj; omega
  | 3 => omega
  | 4 => simp [nums] at hj; omega
  | 5 => simp [nums] at hj; omega
  | 6 => simp [nums] at hj; omega
  | j + 7 => simp [nums] at hj
/-- Put's page, and Get of it. -/
theorem put_page {r : Root} (h : May r) : ∃ P, Pg.putE ((r.seq % 2 : Nat) : Int) 1 (bys (nums r)) = (P, 0) ∧ putE r = (P, 0) ∧ getE ((r.seq % 2 : Nat) : Int) P = (r, 0) := by
  have hl := bys_len (nums r)
  have h7 : (nums r).length = 7 := rfl
  have hp := Pg.putE_ok (n := ((r.seq % 2 : Nat) : Int)) (k := 1) (b := bys (nums r)) (by omega) (by omega)
  refine ⟨_, hp, by unfold putE; rw [if_pos h, hp], ?_⟩
  have hg := (Pg.getE_put hp).1
  have hr := rd_put (nums r) [] [] 0 [] (nums_b64 h) (nums_ok h)
  rw [List.nil_append, List.append_nil, List.nil_append, List.length_nil, Nat.zero_add] at hr
  rw [getE_ok (by omega) hg hr ⟨rfl, by rw [ofN_nums h]; exact h, by rw [ofN_nums h]⟩, ofN_nums h]
theorem putE_no {r : Root} (h : ¬ May r) : putE r = ([], 2) := if_neg h
/-- A root's page of which one byte is another one is none. -/
theorem one {r : Root} (h : May r) {P : List Nat} (hP : putE r = (P, 0)) {p y : Nat} (hp : p < 512) (hy : y < 256) (hne : P[p]? ≠ some y) : ∃ e, e ≠ 0 ∧ getE ((r.seq % 2 : Nat) : Int) (P.set p y) = (zero, e) := by
  unfold putE at hP
  rw [if_pos h] at hP
  have h1 := Pg.one (by omega) (bys_lt (nums_b64 h)) hP hp hy hne
  obtain ⟨⟨k, c, e⟩, hg⟩ : ∃ x, Pg.getE ((r.seq % 2 : Nat) : Int) (P.set p y) = x := ⟨_, rfl⟩
  rw [hg] at h1
  exact ⟨e, h1, getE_page (by omega) hg h1⟩
theorem page_len {r : Root} {P : List Nat} (hP : putE r = (P, 0)) : P.length = 512 ∧ May r := by
  unfold putE at hP
  by_cases h : May r
  · rw [if_pos h] at hP
    obtain ⟨-, h1, h2, -, -⟩ := Pg.getE_put hP
    exact ⟨by rw [h1]; exact Pg.page_len h2, h⟩
  · rw [if_neg h] at hP; simp at hP
theorem getE_zero {place : Int} {b : List Nat} {r : Root} {e : Nat} (h : getE place b = (r, e)) (he : e ≠ 0) : r = zero := by
  unfold getE at h
  split at h
  · simp only [Prod.mk.injEq] at h; exact h.1.symm
  · split at h
    · simp only [Prod.mk.injEq] at h; exact h.1.symm
    · split at h
      · simp only [Prod.mk.injEq] at h; exact h.1.symm
      · split at h
        · simp only [Prod.mk.injEq] at h; exact h.1.symm
        · split at h
          · simp only [Prod.mk.injEq] at h; omega
          · simp only [Prod.mk.injEq] at h; exact h.1.symm
theorem getE_may {place : Int} {b : List Nat} {r : Root} (h : getE place b = (r, 0)) : May r := by
  unfold getE at h
  split at h
  · simp at h
  · split at h
    · rename_i h1 h2; simp only [Prod.mk.injEq] at h; exact absurd h.2 h2
    · split at h
      · simp at h
      · split at h
        · simp at h
        · split at h
          · rename_i h3; simp only [Prod.mk.injEq, and_true] at h; subst h; exact h3.2.1
          · simp at h
end Go.Proofs.Ytoefogmjekcbeaa.Rt
