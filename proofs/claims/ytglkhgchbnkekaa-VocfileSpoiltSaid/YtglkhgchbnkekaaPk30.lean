/-
  VqRd: vocfile's reading of the program: what it holds; number, cut. What is wrong leaves by a panic.
  VqPc: vocfile's reading of the program: piece.
  VqOpen: vocfile's reading of the program: bytes.Equal, bytes.HasPrefix; opening.
-/
import Derived.Test.YtglkhgchbnkekaaPk21
import Derived.Test.YtglkhgchbnkekaaPk10
import Derived.Test.YtglkhgchbnkekaaPk07
import Derived.BigQuiet
import Derived.Deep.RegionHeld3
import Derived.Test.YtglkhgchbnkekaaPk20
import Derived.Test.YtglkhgchbnkekaaPk05
import Derived.Lib.SlBytesConst
namespace Go.Proofs.Ytglkhgchbnkekaa
open Go.RowKit
set_option linter.unusedVariables false

/-- The reading's own block: bytes, place, pieces, places. -/
def Rdp (w : World) (g : Nat) (v p q : Value) (a : Nat) : Prop := w.heap[g]? = some (.cells #[v, .int .i64 (a : Nat), p, q] 89 (0, 0))
section
variable {w w' : World} {g a : Nat} {v p q : Value}
theorem Rdp.lt_ (h : Rdp w g v p q a) : g < w.heap.size := (Array.getElem?_eq_some_iff.1 h).1
theorem Rdp.b (h : Rdp w g v p q a) : w.cell? ⟨g, 0, none⟩ = some v := by rw [cell_of_row _ g 0 _ _ _ h]; rfl
theorem Rdp.at_ (h : Rdp w g v p q a) : w.cell? ⟨g, 1, none⟩ = some (.int .i64 (a : Nat)) := by rw [cell_of_row _ g 1 _ _ _ h]; rfl
theorem Rdp.ps (h : Rdp w g v p q a) : w.cell? ⟨g, 2, none⟩ = some p := by rw [cell_of_row _ g 2 _ _ _ h]; rfl
theorem Rdp.qs (h : Rdp w g v p q a) : w.cell? ⟨g, 3, none⟩ = some q := by rw [cell_of_row _ g 3 _ _ _ h]; rfl
theorem Rdp.cool (h : Rdp w g v p q a) (j : Nat) : w.frozen? ⟨g, j, none⟩ = false := frozen_of_row w g j _ _ h
theorem Rdp.below_ (h : Rdp w g v p q a) {B : Nat} (hb : Below B w w') (hB : g < B) : Rdp w' g v p q a := (hb.block g hB).trans h
theorem Rdp.setA (h : Rdp w g v p q a) (k : Nat) : Rdp (w.setCell ⟨g, 1, none⟩ (.int .i64 (k : Nat))) g v p q k := by unfold Rdp; rw [heap_setCell_same w g 1 _ _ _ h]; rfl
theorem Rdp.setP (h : Rdp w g v p q a) (u : Value) : Rdp (w.setCell ⟨g, 2, none⟩ u) g v u q a := by unfold Rdp; rw [heap_setCell_same w g 2 _ _ _ h]; rfl
theorem Rdp.setQ (h : Rdp w g v p q a) (u : Value) : Rdp (w.setCell ⟨g, 3, none⟩ u) g v p u a := by unfold Rdp; rw [heap_setCell_same w g 3 _ _ _ h]; rfl
theorem Rdp.drewN_ (h : Rdp w g v p q a) (n : Nat) : Rdp (w.drewN n) g v p q a := h
theorem Rdp.drew_ (h : Rdp w g v p q a) : Rdp w.drew g v p q a := h
theorem Rdp.turned_ (h : Rdp w g v p q a) {F : Nat → Prop} (ht : Turned F w w') (hF : ¬ F g) : Rdp w' g v p q a := (ht.block g h.lt_ hF).trans h
end
/-- A call that leaves by a panic of a fault. -/
def Fault (e a : Nat) : Ending := .panicked [{ v := .iface 61 (.agg #[.int .i64 (e : Nat), .int .i64 (a : Nat)]), recovered := false }]
/-- A call of the reading's: what is read and how far, or a fault. -/
def IsRd {α : Type} (g : Nat) (v p q : Value) (f : α → Value) (r : Vf.R α) (w : World) (en : Ending) (w' : World) : Prop :=
  match r with
  | .got x k => en = .returned (f x) ∧ Rdp w' g v p q k ∧ Turned (fun k => k = g) w w'
  | .bad e x => en = Fault e x ∧ Turned (fun k => k = g) w w'
theorem bodyPost_panic {P : Program} {fn : Func} {R : Ending → World → Prop} {a : Act} {w : World} {chain : List PanicEntry} (hd : a.defers = []) (hR : R (.panicked chain) w) : bodyPost P fn R (.panic chain) a w := ⟨hd, hR⟩
def u64V (n : Nat) : Value := .int .u64 (n : Nat)
def u8V (n : Nat) : Value := .int .u8 (n : Nat)

set_option maxHeartbeats 4000000 in
theorem pvnum_any (g : Nat) (v p q : Value) (a most : Nat) (l : List Nat) (w : World) (h : Rdp w g v p q a) (hv : Lv yK w g v l) :
    Calls Try.prog 53 #[.pointer (some ⟨g, 0, none⟩), .int .u64 (most : Nat)] w (IsRd g v p q u64V (Vf.num l a most) w) := by
  have c0 := h.b
  have c1 := h.at_
  obtain ⟨A, c, rfl, -, -, -, -, -⟩ := id hv
  have HC := Lib.hid (get_any _ l g (a : Nat) w.drew (hv.bv_))
  obtain ⟨R, HN⟩ : ∃ R, Vf.num l a most = R := ⟨_, rfl⟩
  unfold Vf.num at HN
  obtain ⟨r, hr⟩ : ∃ r, Mt.get l (a : Nat) = r := ⟨_, rfl⟩
  rw [hr] at HC HN
  obtain ⟨n, k, e⟩ := r
  simp only at HN
  have HH := Lib.hid h
  have HD : Hid (Rdp w.drew g (.slice A l.length c) p q a) := h.drewN_ 1
  have s0 : w.drew.cell? ⟨g, 0, none⟩ = some (.slice A l.length c) ∧ w.drew.cell? ⟨g, 1, none⟩ = some (.int .i64 (a : Nat)) := ⟨c0, c1⟩
  have HR0 : Hid (Vf.num l a most = R) := by unfold Hid Vf.num; rw [hr]; exact HN
  rw [HR0.out]
  have HN := Lib.hid HN
  clear h hv hr HR0
  go_enter Try.func53, Try.ntmps53
  go_wp2
  go_region_held3 (fun w' => w'.cell? ⟨g, 0, none⟩ = some (.slice A l.length c) ∧ w'.cell? ⟨g, 1, none⟩ = some (.int .i64 (a : Nat)))
    (first | exact s0 | exact s1)
    (first | (go_at_call 74; (with_reducible refine HC.out.mono ?_); rintro en w1 ⟨rfl, hb1⟩; have HR1 : Hid (Rdp w1 g (.slice A l.length c) p q a) := HD.out.below_ hb1 HD.out.lt_; have HB1 : Hid (Turned (fun k => k = g) w w1) := (((Turned.refl (fun k => k = g) w).drew).trans (Turned.of_below hb1) (fun k hk h => absurd h (Nat.not_le.2 hk))); have s1 := (⟨HR1.out.b, HR1.out.at_⟩ : w1.cell? ⟨g, 0, none⟩ = some (.slice A l.length c) ∧ w1.cell? ⟨g, 1, none⟩ = some (.int .i64 (a : Nat))); clear hb1))
  all_goals (
    have k1 := s1.2
    have kf := HR1.out.cool 1
    clear s0 s1 c0 c1 HC HH HD
    by_cases he : e = 0
    · subst he
      simp only [Int.natCast_zero]
      by_cases hm : most < n
      · have g1 : (most : Int) < (n : Int) := by omega
        have HX : Hid (R = .bad 3 a) := by unfold Hid; rw [← HN.out, if_neg (by simp), if_pos hm]
        clear HN hm
        go_wp2
        refine bodyPost_panic rfl ?_
        rw [HX.out]
        exact ⟨rfl, HB1.out⟩
      · have g1 : ¬ (most : Int) < (n : Int) := by omega
        have HX : Hid (R = .got n k) := by unfold Hid; rw [← HN.out, if_neg (by simp), if_neg hm]
        have HR := Lib.hid (HR1.out.setA k)
        have HT := Lib.hid (HB1.out.setCell (p := ⟨g, 1, none⟩) (fun _ => rfl) (.int .i64 (k : Nat)))
        clear HN hm
        go_wp2
        go_ret
        rw [HX.out]
        exact ⟨rfl, HR.out, HT.out⟩
    · have g1 : ¬ ((e : Int) = 0) := by omega
      have HX : Hid (R = .bad e a) := by unfold Hid; rw [← HN.out, if_pos he]
      clear HN he
      go_wp2
      refine bodyPost_panic rfl ?_
      rw [HX.out]
      exact ⟨rfl, HB1.out⟩)

set_option maxHeartbeats 2000000 in
/-- So many bytes are not left. -/
theorem pvcut_bad (g : Nat) (v p q : Value) (a size : Nat) (l : List Nat) (w : World) (h : Rdp w g v p q a) (hv : Lv yK w g v l) (ha : a ≤ l.length) (hs : size ≤ 1000) (hl : l.length - a < size) :
    Calls Try.prog 75 #[.pointer (some ⟨g, 0, none⟩), .int .i64 (size : Nat)] w (fun e w' => e = Fault 4 l.length ∧ Turned (fun k => k = g) w w') := by
  have c0 := h.b
  have c1 := h.at_
  have HH := Lib.hid h
  obtain ⟨A, c, rfl, h1, h2, -, -, -⟩ := id hv
  have hm : l.length ≤ 9223372036854775807 := by simp only [maxLen] at h2; omega
  have g4 : (l.length : Int) - (a : Int) < (size : Int) := by omega
  have w0 : IntKind.i64.wrap ((l.length : Int) - (a : Int)) = (l.length : Int) - (a : Int) := by rw [IntKind.wrap_i64]; omega
  clear h hv h1 h2 hl
  go_enter Try.func75, Try.ntmps75
  go_wp2
  go_quiet (fail)
  generalize hW9 : w.drewN _ = w9
  have HH9 : Hid (Rdp w9 g (.slice A l.length c) p q a) := by unfold Hid; rw [← hW9]; exact HH.out.drewN_ _
  have HT9 : Hid (Turned (fun k => k = g) w w9) := by unfold Hid; rw [← hW9]; exact (Turned.refl _ w).drewN _
  have d0 := HH9.out.b
  clear hW9 c0 c1
  go_wp2
  refine bodyPost_panic rfl ?_
  exact ⟨rfl, HT9.out⟩

set_option maxHeartbeats 4000000 in
theorem pvcut_got (g : Nat) (v p q : Value) (a size : Nat) (l : List Nat) (w : World) (h : Rdp w g v p q a) (hv : Lv yK w g v l) (ha : a ≤ l.length) (hs : size ≤ 1000) (hl : ¬ l.length - a < size) :
    Calls Try.prog 75 #[.pointer (some ⟨g, 0, none⟩), .int .i64 (size : Nat)] w (fun e w' => ∃ A, e = .returned (.slice A size size) ∧ Lv yK w' g (.slice A size size) ((l.drop a).take size) ∧ Rdp w' g v p q (a + size) ∧ Turned (fun k => k = g) w w' ∧ ∀ A0 n0 c0, v = .slice A0 n0 c0 → A = cutAddr A0 a (a + size) 1) := by
  have c0 := h.b
  have c1 := h.at_
  have HH := Lib.hid h
  obtain ⟨A, c, rfl, h1, h2, -, -, -⟩ := id hv
  have hm : l.length ≤ 9223372036854775807 := by simp only [maxLen] at h2; omega
  have g4 : ¬ (l.length : Int) - (a : Int) < (size : Int) := by omega
  have w0 : IntKind.i64.wrap ((l.length : Int) - (a : Int)) = (l.length : Int) - (a : Int) := by rw [IntKind.wrap_i64]; omega
  obtain ⟨m, hma⟩ : ∃ m, a + size = m := ⟨_, rfl⟩
  have wm : IntKind.i64.wrap ((a : Int) + (size : Int)) = (m : Int) := by rw [IntKind.wrap_i64]; omega
  have hmc : m ≤ c := by omega
  obtain ⟨s1, s2⟩ := cut_lhm yK yK_el A l.length c a m m (by omega) (Nat.le_refl _) hmc
  obtain ⟨A', hA'⟩ : ∃ A', cutAddr A a m yK.size = A' := ⟨_, rfl⟩
  have hcl : ∀ w', Lv yK w' g (.slice A l.length c) l → Lv yK w' g (.slice A' (m - a) (m - a)) ((l.drop a).take (m - a)) := fun w' h => by rw [← hA']; exact cut_lv h (by omega) (by omega) (Nat.le_refl _) hmc
  have HAD := Lib.hid hA'
  rw [hA'] at s1 s2
  rw [show m - a = size by omega] at s1 s2 hcl
  change ∀ w, (Instr.slice 27 (.slice A l.length c) (some (.int .i64 (a : Nat))) (some (.int .i64 (m : Nat))) (some (.int .i64 (m : Nat)))).run Try.prog w = _ at s1
  change ∀ w, (Instr.sliceAt 27 (.slice A l.length c) (some (.int .i64 (a : Nat))) (some (.int .i64 (m : Nat))) (some (.int .i64 (m : Nat)))).run Try.prog w = _ at s2
  have HCL := Lib.hid hcl
  have HV : Hid (∀ w', Turned (fun k => k = g) w w' → Lv yK w' g (.slice A l.length c) l) := fun w' ht => hv.turned_ ht (fun k hk e => by omega)
  have HMA := Lib.hid hma
  clear h hv h1 h2 hl hcl hA' hmc hma
  go_enter Try.func75, Try.ntmps75
  go_wp2
  go_quiet (fail)
  generalize hW9 : w.drewN _ = w9
  have HH9 : Hid (Rdp w9 g (.slice A l.length c) p q a) := by unfold Hid; rw [← hW9]; exact HH.out.drewN_ _
  have HT9 : Hid (Turned (fun k => k = g) w w9) := by unfold Hid; rw [← hW9]; exact (Turned.refl _ w).drewN _
  have d0 := HH9.out.b
  have d1 := HH9.out.at_
  clear hW9 c0 c1 HH
  go_wp2
  go_quiet (fail)
  generalize hW8 : w9.drewN _ = w8
  have HH8 : Hid (Rdp w8 g (.slice A l.length c) p q a) := by unfold Hid; rw [← hW8]; exact HH9.out.drewN_ _
  have HT8 : Hid (Turned (fun k => k = g) w w8) := by unfold Hid; rw [← hW8]; exact HT9.out.drewN _
  have e1 := HH8.out.at_
  have f1 := HH8.out.cool 1
  have HR := Lib.hid (HH8.out.setA m)
  have HT := Lib.hid (HT8.out.setCell (p := ⟨g, 1, none⟩) (fun _ => rfl) (.int .i64 (m : Nat)))
  clear hW8 d0 d1 HH9 HT9 HH8 HT8 s1 s2
  go_wp2
  go_ret
  exact ⟨A', rfl, HCL.out _ (HV.out _ HT.out), by rw [HMA.out]; exact HR.out, HT.out, fun A0 n0 c0 e => by injection e with e1 e2 e3; subst e1; rw [HMA.out]; exact HAD.out.symm⟩
end Go.Proofs.Ytglkhgchbnkekaa
namespace Go.Proofs.Ytglkhgchbnkekaa
open Go.RowKit
set_option linter.unusedVariables false

theorem num_le {l : List Nat} {a most n k : Nat} (h : Vf.num l a most = .got n k) : n ≤ most := by
  unfold Vf.num at h
  by_cases h1 : (Mt.get l (a : Nat)).2.2 ≠ 0
  · rw [if_pos h1] at h; cases h
  · rw [if_neg h1] at h
    by_cases h2 : most < (Mt.get l (a : Nat)).1
    · rw [if_pos h2] at h; cases h
    · rw [if_neg h2] at h
      injection h with h3 h4
      omega

/-- One byte: none is left. -/
theorem pvcut1_none (g : Nat) (v p q : Value) (a : Nat) (l : List Nat) (w : World) (h : Rdp w g v p q a) (hv : Lv yK w g v l) (ha : a ≤ l.length) (hq : l[a]? = none) :
    Calls Try.prog 75 #[.pointer (some ⟨g, 0, none⟩), .int .i64 1] w (fun e w' => e = Fault 4 l.length ∧ Turned (fun k => k = g) w w') :=
  pvcut_bad g v p q a 1 l w h hv ha (by omega) (by have := List.getElem?_eq_none_iff.1 hq; omega)
theorem pvcut1_some (g : Nat) (v p q : Value) (a c : Nat) (l : List Nat) (w : World) (h : Rdp w g v p q a) (hv : Lv yK w g v l) (hq : l[a]? = some c) :
    Calls Try.prog 75 #[.pointer (some ⟨g, 0, none⟩), .int .i64 1] w (fun e w' => (∃ b o, e = .returned (.slice (some ⟨b, o, none⟩) 1 1) ∧ w'.cell? ⟨b, o, none⟩ = some (.int .u8 (c : Nat))) ∧ Rdp w' g v p q (a + 1) ∧ Turned (fun k => k = g) w w') := by
  have hal := (List.getElem?_eq_some_iff.1 hq).1
  refine (pvcut_got g v p q a 1 l w h hv (by omega) (by omega) (by omega)).mono ?_
  rintro e w' ⟨A, rfl, hl, hr, ht, -⟩
  have e1 : (l.drop a).take 1 = [c] := by
    rw [drop_at hq]; rfl
  rw [e1] at hl
  obtain ⟨b, o, x, rfl, -, hx, hd, hcell⟩ := hl.byte_ (k := 0) (by simp)
  have hxc : x = c := by simpa using hd.symm
  subst hxc
  exact ⟨⟨b, o, rfl, hcell⟩, hr, ht⟩

set_option maxHeartbeats 8000000 in
set_option maxRecDepth 100000 in
theorem pvpiece_any (g : Nat) (v p q : Value) (a : Nat) (l : List Nat) (w : World) (h : Rdp w g v p q a) (hv : Lv yK w g v l) (ha : a ≤ l.length) :
    Calls Try.prog 54 #[.pointer (some ⟨g, 0, none⟩)] w (IsRd g v p q pcV (Vf.rdPc l a) w) := by
  obtain ⟨z, hz⟩ : ∃ z, w.heap.size = z := ⟨_, rfl⟩
  have hgz : g < z := by rw [← hz]; exact h.lt_
  obtain ⟨W1, hW1⟩ : ∃ W, w.alloc (.cells #[.bool false, .int .u8 0, .int .i64 0, .int .i64 0, .int .u32 0] 45) = W := ⟨_, rfl⟩
  have b1 : W1.heap[z]? = some (.cells #[.bool false, .int .u8 0, .int .i64 0, .int .i64 0, .int .u32 0] 45 (0, 0)) := by rw [← hW1, ← hz]; exact heap_alloc_new w _
  have t1 : Turned (fun k => k = g) w W1 := by rw [← hW1]; exact (Turned.refl _ w).alloc _
  have HV : Hid (∀ w', Turned (fun k => k = g) w w' → Lv yK w' g v l) := fun w' ht => hv.turned_ ht (fun k hk e => by omega)
  have r1 : Rdp W1 g v p q a := by unfold Rdp; rw [← hW1, heap_alloc_old w _ h.lt_]; exact h
  have a1 := r1.at_
  have HR1 := Lib.hid r1
  have HA0 := Lib.hid ha
  obtain ⟨R, hR⟩ : ∃ R, Vf.rdPc l a = R := ⟨_, rfl⟩
  rw [hR]
  unfold Vf.rdPc at hR
  have HT1 := Lib.hid t1
  have HS1 := Lib.hid b1
  have HGZ := Lib.hid hgz
  have HZ : Hid (∀ k, z ≤ k → k < w.heap.size → k = g) := fun k h1 h2 => by omega
  have HZ0 := Lib.hid hz
  clear h hv t1 r1 b1 hgz
  cases hq : l[a]? with
  | none =>
    rw [hq] at hR
    simp only at hR
    subst hR
    have HB := Lib.hid (pvcut1_none g v p q a l W1 HR1.out (HV.out W1 HT1.out) HA0.out hq)
    clear hq ha
    go_enter Try.func54, Try.ntmps54
    go_wp2_with (fail)
    refine (HB.out).mono ?_
    rintro e w2 ⟨rfl, ht⟩
    have HT := Lib.hid (HT1.out.trans ht (fun _ _ h => h))
    clear ht
    unfold Fault
    go_wp2
    refine bodyPost_panic rfl ?_
    exact ⟨rfl, HT.out⟩
  | some t =>
    rw [hq] at hR
    simp only at hR
    have HB := Lib.hid (pvcut1_some g v p q a t l W1 HR1.out (HV.out W1 HT1.out) hq)
    have hal : a < l.length := (List.getElem?_eq_some_iff.1 hq).1
    have HA : Hid (a + 1 ≤ l.length) := hal
    have hR := Lib.hid hR
    clear hq ha hal
    go_enter Try.func54, Try.ntmps54
    go_wp2_with (fail)
    refine (HB.out).mono ?_
    rintro e w2 ⟨⟨b2, o2, rfl, cy⟩, hr2, ht2⟩
    have HR2 := Lib.hid hr2
    have HT2 := Lib.hid (HT1.out.trans ht2 (fun _ _ h => h))
    have HS2 : Hid (w2.heap[z]? = some (.cells #[.bool false, .int .u8 0, .int .i64 0, .int .i64 0, .int .u32 0] 45 (0, 0))) := (ht2.block z (Array.getElem?_eq_some_iff.1 HS1.out).1 (fun e => by have := HGZ.out; omega)).trans HS1.out
    clear hr2 ht2 a1 HB HS1 HT1 hW1 HR1 HA0
    by_cases h0 : t = 0
    · subst h0
      simp only [Int.natCast_zero] at cy
      have hR0 := hR.out
      rw [if_pos rfl] at hR0
      clear hR
      cases hq : l[a + 1]? with
      | none =>
        rw [hq] at hR0
        simp only at hR0
        have HB2 := Lib.hid (pvcut1_none g v p q (a + 1) l w2 HR2.out (HV.out w2 HT2.out) HA.out hq)
        have HX : Hid (R = .bad 4 l.length) := hR0.symm
        clear hR0 hq
        go_wp2_with (fail)
        refine (HB2.out).mono ?_
        rintro e w3 ⟨rfl, ht⟩
        have HT := Lib.hid (HT2.out.trans ht (fun _ _ h => h))
        clear ht
        unfold Fault
        go_wp2
        refine bodyPost_panic rfl ?_
        rw [HX.out]
        exact ⟨rfl, HT.out⟩
      | some c =>
        rw [hq] at hR0
        simp only at hR0
        have HB2 := Lib.hid (pvcut1_some g v p q (a + 1) c l w2 HR2.out (HV.out w2 HT2.out) hq)
        have HX : Hid (R = .got ⟨false, c, 0, 0, 0⟩ (a + 1 + 1)) := hR0.symm
        clear hR0 hq
        go_wp2_with (fail)
        refine (HB2.out).mono ?_
        rintro e w3 ⟨⟨b3, o3, rfl, cy3⟩, hr3, ht3⟩
        have HR3 := Lib.hid hr3
        have HT3 := Lib.hid (HT2.out.trans ht3 (fun _ _ h => h))
        have HS3 : Hid (w3.heap[z]? = some (.cells #[.bool false, .int .u8 0, .int .i64 0, .int .i64 0, .int .u32 0] 45 (0, 0))) := (ht3.block z (Array.getElem?_eq_some_iff.1 HS2.out).1 (fun e => by have := HGZ.out; omega)).trans HS2.out
        clear hr3 ht3 HB2 HS2 HT2 HR2
        obtain ⟨x0, x1, x2, x3, x4⟩ := pbox_cells HS3.out
        obtain ⟨f0, f1, f2, f3, f4⟩ := pbox_cool HS3.out
        obtain ⟨W4, hW4⟩ : ∃ W, ((((w3.setCell ⟨z, 0, none⟩ (.bool false)).setCell ⟨z, 1, none⟩ (.int .u8 (c : Nat))).setCell ⟨z, 2, none⟩ (.int .i64 0)).setCell ⟨z, 3, none⟩ (.int .i64 0)).setCell ⟨z, 4, none⟩ (.int .u32 0) = W := ⟨_, rfl⟩
        have HS4 : Hid (W4.heap[z]? = some (.cells #[.bool false, .int .u8 (c : Nat), .int .i64 0, .int .i64 0, .int .u32 0] 45 (0, 0))) := by unfold Hid; rw [← hW4]; exact pbox_set HS3.out _ _ _ _ _
        have HT4 : Hid (Turned (fun k => k = g) w W4) := by unfold Hid; rw [← hW4]; exact pbox_turned HT3.out (HZ.out z (Nat.le_refl _)) _ _ _ _ _
        have HR4 : Hid (Rdp W4 g v p q (a + 1 + 1)) := by unfold Hid; rw [← hW4]; exact ((pbox_turned (F := fun k => k = z) (Turned.refl _ w3) (fun _ => rfl) _ _ _ _ _).block g HR3.out.lt_ (fun e => by have := HGZ.out; omega)).trans HR3.out
        clear HS3 HT3 HR3
        go_wp2
        rw [HX.out]
        exact bodyPost_ret (results_pc rfl _ _ z _ _ _ _ _ _ rfl HS4.out) rfl ⟨rfl, HR4.out, HT4.out⟩
    · have g0 : ¬ ((t : Int) = 0) := by omega
      by_cases h1 : t = 1
      · subst h1
        have hR0 := hR.out
        rw [if_neg (by decide), if_pos rfl] at hR0
        clear hR h0 g0
        rw [show ((1 : Nat) : Int) = (1 : Int) from rfl] at cy
        have HN0 := Lib.hid (pvnum_any g v p q (a + 1) 4095 l w2 HR2.out (HV.out w2 HT2.out))
        cases hn : Vf.num l (a + 1) 4095 with
        | bad er at' =>
          rw [hn] at HN0 hR0
          have HX : Hid (R = .bad er at') := hR0.symm
          clear hR0 hn
          go_wp2_with (fail)
          refine (HN0.out).mono ?_
          rintro e w3 ⟨rfl, ht⟩
          have HT := Lib.hid (HT2.out.trans ht (fun _ _ h => h))
          clear ht
          unfold Fault
          go_wp2
          refine bodyPost_panic rfl ?_
          rw [HX.out]
          exact ⟨rfl, HT.out⟩
        | got x a1 =>
          rw [hn] at HN0 hR0
          have hlex := num_le hn
          simp only [Vf.R.then] at hR0
          clear hn
          go_wp2_with (fail)
          refine (HN0.out).mono ?_
          rintro e v0 ⟨rfl, hr, ht⟩
          have HRv0 := Lib.hid hr
          have HTv0 := Lib.hid (HT2.out.trans ht (fun _ _ h => h))
          have HSv0 : Hid (v0.heap[z]? = some (.cells #[.bool false, .int .u8 0, .int .i64 0, .int .i64 0, .int .u32 0] 45 (0, 0))) := (ht.block z (Array.getElem?_eq_some_iff.1 HS2.out).1 (fun e => by have := HGZ.out; omega)).trans HS2.out
          unfold u64V
          clear hr ht HN0 HS2 HT2 HR2
          have HN1 := Lib.hid (pvnum_any g v p q (a1) 4095 l v0 HRv0.out (HV.out v0 HTv0.out))
          cases hn : Vf.num l (a1) 4095 with
          | bad er at' =>
            rw [hn] at HN1 hR0
            have HX : Hid (R = .bad er at') := hR0.symm
            clear hR0 hn
            go_wp2_with (fail)
            refine (HN1.out).mono ?_
            rintro e w3 ⟨rfl, ht⟩
            have HT := Lib.hid (HTv0.out.trans ht (fun _ _ h => h))
            clear ht
            unfold Fault
            go_wp2
            refine bodyPost_panic rfl ?_
            rw [HX.out]
            exact ⟨rfl, HT.out⟩
          | got y a2 =>
            rw [hn] at HN1 hR0
            have hley := num_le hn
            simp only at hR0
            clear hn
            go_wp2_with (fail)
            refine (HN1.out).mono ?_
            rintro e v1 ⟨rfl, hr, ht⟩
            have HRv1 := Lib.hid hr
            have HTv1 := Lib.hid (HTv0.out.trans ht (fun _ _ h => h))
            have HSv1 : Hid (v1.heap[z]? = some (.cells #[.bool false, .int .u8 0, .int .i64 0, .int .i64 0, .int .u32 0] 45 (0, 0))) := (ht.block z (Array.getElem?_eq_some_iff.1 HSv0.out).1 (fun e => by have := HGZ.out; omega)).trans HSv0.out
            unfold u64V
            clear hr ht HN1 HSv0 HTv0 HRv0
            have HN2 := Lib.hid (pvnum_any g v p q (a2) 4294967295 l v1 HRv1.out (HV.out v1 HTv1.out))
            cases hn : Vf.num l (a2) 4294967295 with
            | bad er at' =>
              rw [hn] at HN2 hR0
              have HX : Hid (R = .bad er at') := hR0.symm
              clear hR0 hn
              go_wp2_with (fail)
              refine (HN2.out).mono ?_
              rintro e w3 ⟨rfl, ht⟩
              have HT := Lib.hid (HTv1.out.trans ht (fun _ _ h => h))
              clear ht
              unfold Fault
              go_wp2
              refine bodyPost_panic rfl ?_
              rw [HX.out]
              exact ⟨rfl, HT.out⟩
            | got u a3 =>
              rw [hn] at HN2 hR0
              have hleu := num_le hn
              simp only at hR0
              clear hn
              go_wp2_with (fail)
              refine (HN2.out).mono ?_
              rintro e v2 ⟨rfl, hr, ht⟩
              have HRv2 := Lib.hid hr
              have HTv2 := Lib.hid (HTv1.out.trans ht (fun _ _ h => h))
              have HSv2 : Hid (v2.heap[z]? = some (.cells #[.bool false, .int .u8 0, .int .i64 0, .int .i64 0, .int .u32 0] 45 (0, 0))) := (ht.block z (Array.getElem?_eq_some_iff.1 HSv1.out).1 (fun e => by have := HGZ.out; omega)).trans HSv1.out
              unfold u64V
              clear hr ht HN2 HSv1 HTv1 HRv1
              have HX : Hid (R = .got ⟨true, 0, (x : Nat), (y : Nat), u⟩ a3) := hR0.symm
              have wx : IntKind.i64.wrap (x : Int) = (x : Int) := by rw [IntKind.wrap_i64]; omega
              have wy : IntKind.i64.wrap (y : Int) = (y : Int) := by rw [IntKind.wrap_i64]; omega
              have wu : IntKind.u32.wrap (u : Int) = (u : Int) := by rw [IntKind.wrap_u32]; omega
              clear hR0 hlex hley hleu
              obtain ⟨x0, x1, x2, x3, x4⟩ := pbox_cells HSv2.out
              obtain ⟨f0, f1, f2, f3, f4⟩ := pbox_cool HSv2.out
              obtain ⟨W4, hW4⟩ : ∃ W, ((((v2.setCell ⟨z, 0, none⟩ (.bool true)).setCell ⟨z, 1, none⟩ (.int .u8 0)).setCell ⟨z, 2, none⟩ (.int .i64 (x : Nat))).setCell ⟨z, 3, none⟩ (.int .i64 (y : Nat))).setCell ⟨z, 4, none⟩ (.int .u32 (u : Nat)) = W := ⟨_, rfl⟩
              have HS4 : Hid (W4.heap[z]? = some (.cells #[.bool true, .int .u8 0, .int .i64 (x : Nat), .int .i64 (y : Nat), .int .u32 (u : Nat)] 45 (0, 0))) := by unfold Hid; rw [← hW4]; exact pbox_set HSv2.out _ _ _ _ _
              have HT4 : Hid (Turned (fun k => k = g) w W4) := by unfold Hid; rw [← hW4]; exact pbox_turned HTv2.out (HZ.out z (Nat.le_refl _)) _ _ _ _ _
              have HR4 : Hid (Rdp W4 g v p q (a3)) := by unfold Hid; rw [← hW4]; exact ((pbox_turned (F := fun k => k = z) (Turned.refl _ v2) (fun _ => rfl) _ _ _ _ _).block g HRv2.out.lt_ (fun e => by have := HGZ.out; omega)).trans HRv2.out
              clear HSv2 HTv2 HRv2
              go_wp2
              rw [HX.out]
              exact bodyPost_ret (results_pc rfl _ _ z _ _ _ _ _ _ rfl HS4.out) rfl ⟨rfl, HR4.out, HT4.out⟩
      · have g1 : ¬ ((t : Int) = 1) := by omega
        have HX : Hid (R = .bad 5 a) := by unfold Hid; rw [← hR.out, if_neg h0, if_neg h1]
        clear hR h0 h1
        go_wp2
        refine bodyPost_panic rfl ?_
        rw [HX.out]
        exact ⟨rfl, HT2.out⟩
end Go.Proofs.Ytglkhgchbnkekaa
namespace Go.Proofs.Ytglkhgchbnkekaa
open Go.RowKit
set_option linter.unusedVariables false

theorem bstr_eq2 {l m : List Nat} (hl : ∀ x ∈ l, x < 256) (hm : ∀ x ∈ m, x < 256) : ((bstr l).toList == (bstr m).toList) = decide (l = m) := by
  rw [bstr_toList m]; exact bstr_eq hl hm

set_option maxHeartbeats 1000000 in
theorem pbequal_any (u v : Value) (la lb : List Nat) (B : Nat) (w : World) (hu : Lv yK w B u la) (hv : Lv yK w B v lb) (h1 : 0 < la.length) (h2 : 0 < lb.length) :
    Calls Try.prog 83 #[u, v] w (fun e w' => e = .returned (.bool (decide (la = lb))) ∧ w' = w) := by
  have k3 := bstr_eq2 (l := la) (m := lb) hu.ok_ hv.ok_
  obtain ⟨A, c, rfl, -, -, -, -, -⟩ := id hu
  obtain ⟨A', c', rfl, -, -, -, -, -⟩ := id hv
  have k1 := conv_str hu h1
  have k2 := conv_str hv h2
  clear hu hv h1 h2
  go_enter Try.func83, Try.ntmps83
  go_wp2
  go_ret
  exact ⟨rfl, rfl⟩

set_option maxHeartbeats 1000000 in
theorem pprefix_any (u v : Value) (l m : List Nat) (B : Nat) (w : World) (hu : Lv yK w B u l) (hv : Lv yK w B v m) (h0 : 0 < m.length) :
    Calls Try.prog 73 #[u, v] w (fun e w' => e = .returned (.bool (decide (l.take m.length = m))) ∧ w' = w) := by
  obtain ⟨A, c, rfl, a1, a2, -, -, -⟩ := id hu
  obtain ⟨A', c', rfl, b1, b2, -, -, -⟩ := id hv
  have hm : l.length ≤ 9223372036854775807 := by simp only [maxLen] at a2; omega
  have hm' : m.length ≤ 9223372036854775807 := by simp only [maxLen] at b2; omega
  by_cases hle : m.length ≤ l.length
  · have g1 : (m.length : Int) ≤ (l.length : Int) := by omega
    have g2 : (0 : Int) ≤ (m.length : Int) := by omega
    have g3 : (m.length : Int) ≤ (c : Int) := by omega
    have HC := Lib.hid (pbequal_any _ _ (l.take m.length) m B w (hu.take_ hle) hv (by rw [List.length_take]; omega) h0)
    obtain ⟨n, hn⟩ : ∃ n, m.length = n := ⟨_, rfl⟩
    rw [hn] at g1 g2 g3 HC ⊢
    clear hu hv a1 a2 b1 b2 hle h0 hm' hn
    go_enter Try.func73, Try.ntmps73
    go_wp2_with (fail)
    refine (HC.out).mono ?_
    rintro e w1 ⟨rfl, rfl⟩
    go_wp2
    go_ret
    exact ⟨rfl, rfl⟩
  · have g1 : ¬ (m.length : Int) ≤ (l.length : Int) := by omega
    have HX : Hid (decide (l.take m.length = m) = false) := by
      unfold Hid
      rw [decide_eq_false_iff_not]
      intro e
      have := congrArg List.length e
      rw [List.length_take] at this
      omega
    clear hu hv a1 a2 b1 b2 hle h0
    go_enter Try.func73, Try.ntmps73
    go_wp2
    go_ret
    exact ⟨by rw [HX.out]; rfl, rfl⟩

def Vf.magicP (l : List Nat) : Vf.R Unit := if l.take 6 = Vf.magic then .got () 6 else .bad 5 0
def noV (_ : Unit) : Value := .tuple #[]

set_option maxHeartbeats 2000000 in
set_option maxRecDepth 100000 in
theorem pvopen_any (g : Nat) (v p q : Value) (a : Nat) (l : List Nat) (w : World) (h : Rdp w g v p q a) (hv : Lv yK w g v l) :
    Calls Try.prog 52 #[.pointer (some ⟨g, 0, none⟩)] w (IsRd g v p q noV (Vf.magicP l) w) := by
  have c0 := h.b
  have kc := Lib.run_convert_bytes_const (P := Try.prog) w 27 5 #[.int .u8 115, .int .u8 116, .int .u8 111, .int .u8 111, .int .u8 107, .int .u8 118] 6 6 Try.underlying27 Try.underlying5
  have hm6 := (Bv.magic_ w).lv_
  obtain ⟨W2, hW2⟩ : ∃ W2, w.alloc (.cells #[.int .u8 115, .int .u8 116, .int .u8 111, .int .u8 111, .int .u8 107, .int .u8 118] 5 (6, 7)) = W2 := ⟨_, rfl⟩
  rw [hW2] at hm6
  change _ = Result.ok _ (w.alloc (.cells #[.int .u8 115, .int .u8 116, .int .u8 111, .int .u8 111, .int .u8 107, .int .u8 118] 5 (6, 7))) at kc
  rw [hW2] at kc
  have hT2 : Turned (fun k => k = g) w W2 := by rw [← hW2]; exact (Turned.refl _ w).alloc _
  have hb2 : Below w.heap.size w W2 := by rw [← hW2]; exact (Below.refl _ _).alloc (Nat.le_refl _) _
  have hr2 : Rdp W2 g v p q a := h.below_ hb2 h.lt_
  have HP := Lib.hid (pprefix_any v _ l Vf.magic (w.heap.size + 1) W2 ((hv.below_ hb2 (Nat.le_of_lt h.lt_)).mono_ (by have := h.lt_; omega)) hm6 (by decide))
  rw [Vf.magic_len] at HP
  have HR2 := Lib.hid hr2
  have HT2 := Lib.hid hT2
  obtain ⟨A, c, rfl, -, -, -, -, -⟩ := id hv
  have k1 := hr2.at_
  have f1 := hr2.cool 1
  clear h hv hm6 hW2 hT2 hb2 hr2
  go_enter Try.func52, Try.ntmps52
  go_wp2_with (fail)
  refine (HP.out).mono ?_
  rintro e w1 ⟨rfl, rfl⟩
  clear HP
  by_cases hmg : l.take 6 = Vf.magic
  · have HX : Hid (Vf.magicP l = .got () 6) := if_pos hmg
    rw [decide_eq_true hmg]
    have HR := Lib.hid (HR2.out.setA 6)
    have HT := Lib.hid (HT2.out.setCell (p := ⟨g, 1, none⟩) (fun _ => rfl) (.int .i64 (6 : Nat)))
    clear hmg kc
    go_wp2
    refine bodyPost_end (results_none rfl _ _ _) ?_ ?_
    · rfl
    rw [HX.out]
    exact ⟨rfl, HR.out, HT.out⟩
  · have HX : Hid (Vf.magicP l = .bad 5 0) := if_neg hmg
    rw [decide_eq_false hmg]
    clear hmg kc
    go_wp2
    refine bodyPost_panic rfl ?_
    rw [HX.out]
    exact ⟨rfl, HT2.out⟩
end Go.Proofs.Ytglkhgchbnkekaa
