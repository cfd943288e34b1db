/-
  RVfA: stookref09.piece: a piece's bytes.
  VfMathB: Plain mathematics of chapter 9 (vocfile): a file comes back; what is read is a file; a spoilt one is none.
  RVfB: stookref02.Four, stookref09.Put: a vocabulary's file.
-/
import Derived.Test.YtglkhgchbnkekaaPk06
import Derived.Test.YtglkhgchbnkekaaPk16
import Derived.Test.YtglkhgchbnkekaaPk17
import Derived.Test.YtglkhgchbnkekaaPk02
import Derived.Test.YtglkhgchbnkekaaPk04
import Derived.Lib.SlBytesConst
namespace Go.Proofs.Ytglkhgchbnkekaa
open Go.RowKit
set_option linter.unusedVariables false

/-- A call that answers these bytes, in memory that is not among what lay there, and turns nothing that lay there. -/
def IsO (l : List Nat) (w : World) (e : Ending) (w' : World) : Prop :=
  ∃ A c, e = .returned (.slice A l.length c) ∧ Lv yK w' w'.heap.size (.slice A l.length c) l ∧ Below w.heap.size w w' ∧ ∀ k, (Value.slice A l.length c).ownBlock = some k → w.heap.size ≤ k
theorem IsFresh.o {l : List Nat} {w w' : World} {e : Ending} (h : IsFresh l w e w') : IsO l w e w' := by
  obtain ⟨A, c, h1, h2, h3⟩ := h
  exact ⟨A, c, h1, h2.form_.lv_, h3, fun k hk => (h2.lt_ k hk).1⟩
/-- A literal slice. -/
theorem own_lit {P : Program} {α : Type} {K : El P α} (w : World) (base : Nat) (l : List α) (hok : ∀ x ∈ l, K.ok x) (hm : l.length ≤ maxLen) (hb : base ≤ w.heap.size) (n : Nat) (hn : n = l.length) (cs : Array Value) (hcs : cs = (K.flat l).toArray) (t : TypeId) (ht : t = K.e) : OwnL K (w.alloc (.cells cs t)) base (.slice (some ⟨w.heap.size, 0, none⟩) n n) l := by
  subst hn hcs ht
  refine ⟨hok, .inr ⟨w.heap.size, [], rfl, hb, by simp, by simpa using hm, ?_⟩⟩
  rw [List.append_nil]
  exact heap_alloc_new w _

set_option maxHeartbeats 2000000 in
theorem rpiece_any (p : Vo.Pc) (hf : Vf.Fits p) (w : World) : Calls Try.prog 28 #[pcV p] w (IsL1 yK (Vf.pcB p) w) := by
  obtain ⟨pj, pb, pl, pr, pk⟩ := p
  unfold pcV
  simp only
  obtain ⟨s, hs⟩ : ∃ s, w.heap.size = s := ⟨_, rfl⟩
  cases pj with
  | false =>
    obtain ⟨h1, h2, h3, hb⟩ : pl = 0 ∧ pr = 0 ∧ pk = 0 ∧ pb < 256 := hf
    subst h1 h2 h3
    obtain ⟨W, hW⟩ : ∃ W, w.alloc (.cells #[.bool false, .int .u8 (pb : Nat), .int .i64 0, .int .i64 0, .int .u32 0] 45) = W := ⟨_, rfl⟩
    have hx : W.heap[s]? = some (.cells #[.bool false, .int .u8 (pb : Nat), .int .i64 0, .int .i64 0, .int .u32 0] 45 (0, 0)) := by rw [← hW, ← hs]; exact heap_alloc_new w _
    have x0 : W.cell? ⟨s, 0, none⟩ = some (.bool false) := by rw [cell_of_row _ _ 0 _ _ _ hx]; rfl
    have x1 : W.cell? ⟨s, 1, none⟩ = some (.int .u8 (pb : Nat)) := by rw [cell_of_row _ _ 1 _ _ _ hx]; rfl
    have HB : Hid (Below s w W) := by unfold Hid; rw [← hW]; exact (Below.refl s w).alloc (by omega) _
    have HL : Hid (OwnL yK (W.alloc (.cells #[.int .u8 0, .int .u8 (pb : Nat)] 5)) s (.slice (some ⟨W.heap.size, 0, none⟩) 2 2) [0, pb]) :=
      own_lit W s [0, pb] (fun x hx => by simp at hx; show x < 256; rcases hx with rfl | rfl <;> omega) (by simp [maxLen]) (by have := HB.out.size; omega) 2 rfl _ rfl _ rfl
    simp only [Int.natCast_zero]
    clear hx
    go_enter Try.func28, Try.ntmps28
    go_wp2
    go_ret
    exact ⟨some ⟨W.heap.size, 0, none⟩, 2, rfl, by rw [hs]; exact HL.out, by rw [hs]; exact HB.out.alloc (by have := HB.out.size; omega) _⟩
  | true =>
    obtain ⟨h0, h1, h2, h3, h4, h5⟩ : pb = 0 ∧ 0 ≤ pl ∧ pl ≤ 4095 ∧ 0 ≤ pr ∧ pr ≤ 4095 ∧ pk ≤ 4294967295 := hf
    subst h0
    obtain ⟨L, rfl⟩ := Int.eq_ofNat_of_zero_le h1
    obtain ⟨R, rfl⟩ := Int.eq_ofNat_of_zero_le h3
    have hL : L ≤ 4095 := by omega
    have hR : R ≤ 4095 := by omega
    clear h1 h2 h3 h4
    have HX : Hid (Vf.pcB ⟨true, 0, (L : Int), (R : Int), pk⟩ = (([1] ++ Mt.put L) ++ Mt.put R) ++ Mt.put pk) := by unfold Hid; simp [Vf.pcB]
    simp only [Int.natCast_zero]
    obtain ⟨W, hW⟩ : ∃ W, w.alloc (.cells #[.bool true, .int .u8 0, .int .i64 (L : Int), .int .i64 (R : Int), .int .u32 (pk : Nat)] 45) = W := ⟨_, rfl⟩
    have hx : W.heap[s]? = some (.cells #[.bool true, .int .u8 0, .int .i64 (L : Int), .int .i64 (R : Int), .int .u32 (pk : Nat)] 45 (0, 0)) := by rw [← hW, ← hs]; exact heap_alloc_new w _
    have x0 : W.cell? ⟨s, 0, none⟩ = some (.bool true) := by rw [cell_of_row _ _ 0 _ _ _ hx]; rfl
    have hb0 : Below s w W := by rw [← hW]; exact (Below.refl s w).alloc (by omega) _
    have hlt : s < W.heap.size := (Array.getElem?_eq_some_iff.1 hx).1
    obtain ⟨W1, hW1⟩ : ∃ W1, W.alloc (.cells #[.int .u8 1] 5) = W1 := ⟨_, rfl⟩
    obtain ⟨g, hg⟩ : ∃ g, W.heap.size = g := ⟨_, rfl⟩
    have HSG : Hid (s < g) := by rw [← hg]; exact hlt
    have ho1 : OwnL yK W1 s (.slice (some ⟨g, 0, none⟩) 1 1) [1] := by
      rw [← hW1, ← hg]
      exact own_lit W s [1] (fun x hx => by simp at hx; subst hx; show 1 < 256; omega) (by simp [maxLen]) (by omega) 1 rfl _ rfl _ rfl
    have b1 : Below g W W1 := by rw [← hW1]; exact (Below.refl g W).alloc (by omega) _
    have hx1 := (b1.block s (by omega)).trans hx
    have HB1 : Hid (Below s w W1) := hb0.trans (b1.mono (by omega))
    have HO1 := Lib.hid ho1
    have HX1 := Lib.hid hx1
    have y2 : W1.cell? ⟨s, 2, none⟩ = some (.int .i64 (L : Int)) := by rw [cell_of_row _ _ 2 _ _ _ hx1]; rfl
    have wL : IntKind.u64.wrap (L : Int) = (L : Int) := by rw [IntKind.wrap_u64]; omega
    have wR : IntKind.u64.wrap (R : Int) = (R : Int) := by rw [IntKind.wrap_u64]; omega
    have wK : IntKind.u64.wrap (pk : Int) = (pk : Int) := by rw [IntKind.wrap_u64]; omega
    have HP : Hid (∀ n, n ≤ 4294967295 → ∀ w, Calls Try.prog 27 #[.int .u64 (n : Nat)] w (IsO (Mt.put n) w)) := fun n hn w => (rput_any 9 n w (by omega) (Vf.b64_of hn)).mono fun e w' h => h.o
    have HS : Hid (∀ n, (Mt.put n).length ≤ 10) := fun n => Mt.put_len_le n
    have C1 := Lib.hid (HP.out L (by omega) W1)
    obtain ⟨w1s, hws⟩ : ∃ n, W1.heap.size = n := ⟨_, rfl⟩
    have hgs : g < w1s := by rw [← hws, ← hW1, ← hg]; simp
    clear hx hb0 hlt b1 ho1 hx1
    go_enter Try.func28, Try.ntmps28
    go_wp2_with (fail)
    refine (C1.out).mono ?_
    rintro e w2 ⟨A2, c2, rfl, o2, bb2, ap2⟩
    have HX2 : Hid (w2.heap[s]? = _) := (bb2.block s (by have := (Array.getElem?_eq_some_iff.1 HX1.out).1; exact this)).trans HX1.out
    have y3 : w2.cell? ⟨s, 3, none⟩ = some (.int .i64 (R : Int)) := by rw [cell_of_row _ _ 3 _ _ _ HX2.out]; rfl
    have HO2 := Lib.hid (HO1.out.below_ bb2 (Nat.le_refl _))
    have HB2 : Hid (Below s w w2) := HB1.out.trans (bb2.mono (by have := HB1.out.size; omega))
    have HL2 := Lib.hid o2
    have C2 := Lib.hid (HP.out R (by omega) w2)
    have HG2 : Hid (g < w1s ∧ w1s ≤ w2.heap.size) := ⟨hgs, by rw [← hws]; exact bb2.size⟩
    have AP2 : Hid (∀ k, (Value.slice A2 (Mt.put L).length c2).ownBlock = some k → g < k) := fun k hk => by have := ap2 k hk; omega
    clear bb2 o2 C1 y2 ap2
    go_wp2_with (fail)
    refine (C2.out).mono ?_
    rintro e w3 ⟨A3, c3, rfl, o3, bb3, ap3⟩
    have HX3 : Hid (w3.heap[s]? = _) := (bb3.block s (by have := (Array.getElem?_eq_some_iff.1 HX2.out).1; exact this)).trans HX2.out
    have y4 : w3.cell? ⟨s, 4, none⟩ = some (.int .u32 (pk : Nat)) := by rw [cell_of_row _ _ 4 _ _ _ HX3.out]; rfl
    have HO3 := Lib.hid (HO2.out.below_ bb3 (Nat.le_refl _))
    have HB3 : Hid (Below s w w3) := HB2.out.trans (bb3.mono (by have := HB2.out.size; omega))
    have HL3 := Lib.hid ((HL2.out.below_ bb3 (Nat.le_refl _)).mono_ bb3.size)
    have HR3 := Lib.hid o3
    have C3 := Lib.hid (HP.out pk h5 w3)
    have AP3 : Hid (∀ k, (Value.slice A3 (Mt.put R).length c3).ownBlock = some k → g < k) := fun k hk => by have := ap3 k hk; have := HG2.out; omega
    have HG3 : Hid (g < w3.heap.size) := by have := bb3.size; have := HG2.out; unfold Hid; omega
    clear bb3 o3 C2 y3 ap3
    go_wp2_with (fail)
    refine (C3.out).mono ?_
    rintro e w4 ⟨A4, c4, rfl, o4, bb4, ap4⟩
    have HO4 := Lib.hid (HO3.out.below_ bb4 (Nat.le_refl _))
    have HB4 : Hid (Below s w w4) := HB3.out.trans (bb4.mono (by have := HB3.out.size; omega))
    have HL4 := Lib.hid ((HL3.out.below_ bb4 (Nat.le_refl _)).mono_ bb4.size)
    have HR4 := Lib.hid ((HR3.out.below_ bb4 (Nat.le_refl _)).mono_ bb4.size)
    have HK4 := Lib.hid o4
    have hs4 : s ≤ w4.heap.size := by have := HB4.out.size; omega
    have n1 := HS.out L
    have n2 := HS.out R
    have n3 := HS.out pk
    obtain ⟨tl, htl⟩ : ∃ t, Mt.put L = t := ⟨_, rfl⟩
    obtain ⟨tr, htr⟩ : ∃ t, Mt.put R = t := ⟨_, rfl⟩
    obtain ⟨tk, htk⟩ : ∃ t, Mt.put pk = t := ⟨_, rfl⟩
    rw [htl, htr, htk] at HX
    rw [htl] at HL4 n1 ⊢
    rw [htr] at HR4 n2 ⊢
    rw [htk] at HK4 n3 ap4 ⊢
    rw [htl] at AP2
    rw [htr] at AP3
    have AP4 : Hid (∀ k, (Value.slice A4 tk.length c4).ownBlock = some k → g < k) := fun k hk => by have := ap4 k hk; have := HG3.out; omega
    clear bb4 o4 C3 y4 htl htr htk HP HS x0 ap4
    obtain ⟨z, hz⟩ : ∃ z, w4.heap.size = z := ⟨_, rfl⟩
    have keep : Hid (∀ (w' : World) (A : Option Addr) (c : Nat) (l : List Nat), Turned (fun k => k = g ∨ z ≤ k) w4 w' → Lv yK w4 w4.heap.size (.slice A l.length c) l → (∀ k, (Value.slice A l.length c).ownBlock = some k → g < k) → Lv yK w' z (.slice A l.length c) l) := fun w' A c l ht hl ha => by
      rw [hz] at hl
      exact hl.turnedB_ ht (fun hp k hk h => by
        have h1 := ha k hk
        have h2 := hl.blk_ hp hk
        rcases h with h | h
        · have h : k = g := h
          omega
        · have h : z ≤ k := h
          omega)
    have HZ := Lib.hid hz
    clear hz
    go_wp2_with (first
      | (at_builtin; refine wpList_append_m _ yK rfl _ _ rfl s (.slice (some ⟨g, 0, none⟩) 1 1) rfl [1] HO4.out _ rfl w4.heap.size tl HL4.out (by show (1 + _) * 1 ≤ _; omega) (by show 1 + _ ≤ maxLen; simp only [maxLen]; omega) hs4 ?_; intro A5 c5 w5 h5 g5 m5; have T5 := Lib.hid ((Turned.of_grown g5).mono (G := fun k => k = g ∨ z ≤ k) (fun k _ e => .inl (Option.some.inj e).symm)); have H5 := Lib.hid h5; have M5 : Hid (∀ k, (Value.slice A5 ([1] ++ tl).length c5).ownBlock = some k → k = g ∨ z ≤ k) := fun k hk => (m5 k hk).imp (fun e => (Option.some.inj e).symm) (fun h => by have := HZ.out; omega); have S5 := Lib.hid (keep.out w5 A3 c3 tr T5.out HR4.out AP3.out); have hs5 : s ≤ w5.heap.size := (by have := T5.out.size; omega); clear HO4 h5 g5 m5; obtain ⟨l5, hl5⟩ : ∃ l, [1] ++ tl = l := ⟨_, rfl⟩; have HN5 : Hid (l5.length = 1 + tl.length) := (by unfold Hid; rw [← hl5]; simp; omega); rw [hl5] at H5 M5 ⊢; rw [HN5.out] at H5 M5 ⊢; have HE5 := Lib.hid hl5; clear hl5)
      | (at_builtin; refine wpList_append_m _ yK rfl _ _ rfl s _ rfl l5 H5.out _ rfl z tr S5.out (by rw [HN5.out]; show (1 + _ + _) * 1 ≤ _; omega) (by rw [HN5.out]; simp only [maxLen]; omega) hs5 ?_; intro A6 c6 w6 h6 g6 m6; have T6 := Lib.hid (T5.out.trans ((Turned.of_grown g6).mono (G := fun k => k = g ∨ z ≤ k) (fun k _ e => M5.out k e)) (fun _ _ h => h)); have H6 := Lib.hid h6; have M6 : Hid (∀ k, (Value.slice A6 (l5 ++ tr).length c6).ownBlock = some k → k = g ∨ z ≤ k) := fun k hk => (m6 k hk).elim (fun e => M5.out k e) (fun h => .inr (by have := T5.out.size; have := HZ.out; omega)); have S6 := Lib.hid (keep.out w6 A4 c4 tk T6.out HK4.out AP4.out); have hs6 : s ≤ w6.heap.size := (by have := T6.out.size; omega); clear H5 h6 g6 m6; obtain ⟨l6, hl6⟩ : ∃ l, l5 ++ tr = l := ⟨_, rfl⟩; have HN6 : Hid (l6.length = 1 + tl.length + tr.length) := (by unfold Hid; rw [← hl6, List.length_append, HN5.out]); rw [hl6] at H6 M6 ⊢; rw [HN6.out] at H6 M6 ⊢; have HE6 := Lib.hid hl6; clear hl6)
      | (at_builtin; refine wpList_append_m _ yK rfl _ _ rfl s _ rfl l6 H6.out _ rfl z tk S6.out (by rw [HN6.out]; show (1 + _ + _ + _) * 1 ≤ _; omega) (by rw [HN6.out]; simp only [maxLen]; omega) hs6 ?_; intro A7 c7 w7 h7 g7 m7; have T7 := Lib.hid (T6.out.trans ((Turned.of_grown g7).mono (G := fun k => k = g ∨ z ≤ k) (fun k _ e => M6.out k e)) (fun _ _ h => h)); have H7 := Lib.hid h7; clear H6 h7 g7 m7))
    go_ret
    have hE : l6 ++ tk = Vf.pcB ⟨true, 0, (L : Int), (R : Int), pk⟩ := by rw [HX.out, ← HE6.out, ← HE5.out]
    rw [hE] at H7
    have hf : ∀ k, (fun k => k = g ∨ z ≤ k) k → s ≤ k := by
      intro k h
      rcases h with h | h
      · have h : k = g := h
        have := HSG.out
        omega
      · have h : z ≤ k := h
        have := HZ.out
        omega
    refine ⟨A7, c7, ?_, by rw [hs]; exact H7.out, by rw [hs]; exact HB4.out.trans (T7.out.below (by omega) hf)⟩
    rw [← hE, List.length_append]
    rfl
end Go.Proofs.Ytglkhgchbnkekaa
namespace Go.Proofs.Ytglkhgchbnkekaa.Vf
open Vo (Pc)
set_option linter.unusedVariables false

theorem pcs_cons (p : Pc) (P : List Pc) : pcs (p :: P) = pcB p ++ pcs P := by simp [pcs]
theorem pcs_nil : pcs [] = [] := rfl
theorem pcs_app (P Q : List Pc) : pcs (P ++ Q) = pcs P ++ pcs Q := by simp [pcs]
theorem pcs_lt {P : List Pc} (h : ∀ p ∈ P, Fits p) : ∀ x ∈ pcs P, x < 256 := by
  intro x hx
  obtain ⟨p, hp, hx⟩ := List.mem_flatMap.1 hx
  exact pcB_lt (h p hp) x hx
/-- The places of pieces that stand one behind the other. -/
def withPlaces : List Pc → Nat → List (Pc × Nat)
  | [], _ => []
  | p :: P, a => (p, a) :: withPlaces P (a + (pcB p).length)
theorem withPlaces_fst (P : List Pc) : ∀ a, (withPlaces P a).map Prod.fst = P := by
  induction P with
  | nil => intro a; rfl
  | cons p P ih => intro a; rw [withPlaces, List.map_cons, ih]
theorem withPlaces_len (P : List Pc) (a : Nat) : (withPlaces P a).length = P.length := by
  have := congrArg List.length (withPlaces_fst P a)
  rwa [List.length_map] at this
theorem rdPcs_put (P : List Pc) (h : ∀ p ∈ P, Fits p) : ∀ (x y : List Nat), rdPcs P.length (x ++ pcs P ++ y) x.length = .got (withPlaces P x.length) (x.length + (pcs P).length) := by
  induction P with
  | nil => intro x y; rfl
  | cons p P ih =>
    intro x y
    have e : x ++ pcs (p :: P) ++ y = x ++ pcB p ++ (pcs P ++ y) := by rw [pcs_cons]; simp
    have e2 : x ++ pcs (p :: P) ++ y = (x ++ pcB p) ++ pcs P ++ y := by rw [pcs_cons]; simp
    show (rdPc (x ++ pcs (p :: P) ++ y) x.length).then _ = _
    rw [e, rdPc_put (h p (by simp)), ← e, e2]
    have := ih (fun q hq => h q (by simp [hq])) (x ++ pcB p) y
    rw [List.length_append] at this
    simp only [R.then]
    rw [this]
    simp only [withPlaces]
    congr 1
    rw [pcs_cons, List.length_append]
    omega
theorem rdPcs_got {l : List Nat} (hl : ∀ x ∈ l, x < 256) : ∀ (n a k : Nat) (Q : List (Pc × Nat)), a ≤ l.length → rdPcs n l a = .got Q k → (∀ p ∈ Q.map Prod.fst, Fits p) ∧ Q.length = n ∧ k = a + (pcs (Q.map Prod.fst)).length ∧ k ≤ l.length ∧ (l.drop a).take (k - a) = pcs (Q.map Prod.fst) ∧ Q = withPlaces (Q.map Prod.fst) a := by
  intro n
  induction n with
  | zero =>
    intro a k Q ha h
    injection h with e1 e2
    subst e1 e2
    simp [pcs, withPlaces, ha]
  | succ n ih =>
    intro a k Q ha h
    unfold rdPcs at h
    cases h1 : rdPc l a with
    | bad e w => rw [h1] at h; cases h
    | got p a1 =>
      rw [h1] at h
      simp only [R.then] at h
      obtain ⟨p1, p2, p3, p4⟩ := rdPc_got hl h1
      cases h2 : rdPcs n l a1 with
      | bad e w => rw [h2] at h; cases h
      | got Q' a2 =>
        rw [h2] at h
        injection h with e1 e2
        subst e1 e2
        obtain ⟨q1, q2, q3, q4, q5, q6⟩ := ih a1 a2 Q' (by omega) h2
        refine ⟨?_, by simp [q2], ?_, q4, ?_, ?_⟩
        · intro q hq
          rw [List.map_cons] at hq
          rcases List.mem_cons.1 hq with rfl | hq
          · exact p1
          · exact q1 q hq
        · rw [List.map_cons, pcs_cons, List.length_append]; simp only; omega
        · rw [List.map_cons, pcs_cons, show a2 - a = (a1 - a) + (a2 - a1) by omega, List.take_add, p4, List.drop_drop, show a + (a1 - a) = a1 by omega, q5]
        · rw [List.map_cons, withPlaces, ← p2, ← q6]
theorem rdPcs_more {l : List Nat} (hl : ∀ x ∈ l, x < 256) (t : List Nat) : ∀ (n a k : Nat) (Q : List (Pc × Nat)), rdPcs n l a = .got Q k → rdPcs n (l ++ t) a = .got Q k := by
  intro n
  induction n with
  | zero => intro a k Q h; exact h
  | succ n ih =>
    intro a k Q h
    unfold rdPcs at h ⊢
    cases h1 : rdPc l a with
    | bad e w => rw [h1] at h; cases h
    | got p a1 =>
      rw [h1] at h
      rw [rdPc_more hl h1]
      simp only [R.then] at h ⊢
      cases h2 : rdPcs n l a1 with
      | bad e w => rw [h2] at h; cases h
      | got Q' a2 =>
        rw [h2] at h
        rw [ih a1 a2 Q' h2]
        exact h

/-- The pieces of a vocabulary that may be, with ranks of 32 bits, fit. -/
theorem may_fits {P : List Pc} (h : Vo.May P) (hk : ∀ p ∈ P, p.rank < 4294967296) (hb : ∀ p ∈ P, p.byte < 256) : ∀ p ∈ P, Fits p := by
  intro p hp
  obtain ⟨k, hkp⟩ := List.getElem?_of_mem hp
  obtain ⟨h1, h2, _⟩ := Vo.may_iff.1 h
  have hlt := (List.getElem?_eq_some_iff.1 hkp).1
  have he := h2 k p hkp
  have hr := hk p hp
  have hpb := hb p hp
  unfold Fits
  cases hj : p.join with
  | true =>
    obtain ⟨a1, a2, a3, a4, a5, _, _⟩ := Vo.errAt_join hj he
    rw [List.length_take] at a3 a5
    rw [if_pos rfl]
    exact ⟨a1, a2, by omega, a4, by omega, by omega⟩
  | false =>
    obtain ⟨a1, a2, a3, _⟩ := Vo.errAt_byte hj he
    rw [if_neg (by simp)]
    exact ⟨a1, a2, a3, hpb⟩
theorem magic_lt : ∀ x ∈ magic, x < 256 := by decide
theorem body_lt {P : List Pc} (h : ∀ p ∈ P, Fits p) (hn : P.length ≤ 4096) : ∀ x ∈ body P, x < 256 := by
  intro x hx
  unfold body at hx
  rcases List.mem_append.1 hx with hx | hx
  · rcases List.mem_append.1 hx with hx | hx
    · exact magic_lt x hx
    · exact Mt.put_lt (b64_of (by omega)) x hx
  · exact pcs_lt h x hx
theorem file_lt {P : List Pc} (h : ∀ p ∈ P, Fits p) (hn : P.length ≤ 4096) : ∀ x ∈ file P, x < 256 := by
  intro x hx
  rcases List.mem_append.1 hx with hx | hx
  · exact body_lt h hn x hx
  · exact four_lt _ x hx
theorem file_len (P : List Pc) : (file P).length = (body P).length + 4 := by simp [file, four]
theorem magic_len : magic.length = 6 := rfl
/-- What is read of a body with something behind it. -/
theorem read_body {P : List Pc} (h : ∀ p ∈ P, Fits p) (hn : P.length ≤ 4096) (t : List Nat) :
    (body P ++ t).take 6 = magic ∧ num (body P ++ t) 6 4096 = .got P.length (6 + (Mt.put P.length).length) ∧ rdPcs P.length (body P ++ t) (6 + (Mt.put P.length).length) = .got (withPlaces P (6 + (Mt.put P.length).length)) (body P).length := by
  refine ⟨?_, ?_, ?_⟩
  · rw [body, List.append_assoc, List.append_assoc, ← magic_len, List.take_left]
  · have := num_put (x := magic) (y := pcs P ++ t) (n := P.length) (most := 4096) (b64_of (by omega)) hn
    rw [magic_len] at this
    rw [body, List.append_assoc]
    exact this
  · have := rdPcs_put P h (magic ++ Mt.put P.length) t
    rw [List.length_append, magic_len] at this
    rw [body]
    rw [this, List.length_append, List.length_append, magic_len]
theorem getE_file {P : List Pc} (hm : Vo.May P) (h : ∀ p ∈ P, Fits p) : getE (file P) = (P, 0, 0) := by
  have hn := (Vo.may_iff.1 hm).1
  obtain ⟨h1, h2, h3⟩ := read_body h hn (four (Cr.of (body P)))
  have hfl := file_len P
  unfold getE
  rw [show file P = body P ++ four (Cr.of (body P)) from rfl] at hfl ⊢
  rw [if_neg (by rw [h1]; simp), h2]
  simp only
  rw [h3]
  simp only
  rw [if_neg (by omega), List.drop_left, List.take_left, List.take_of_length_le (by simp [four]), if_neg (by simp), if_neg (by omega), withPlaces_fst]
  have hc : (Vo.check P).1 = 0 := hm
  rw [if_neg (by rw [hc]; simp)]
theorem num_bad {l : List Nat} {a most w : Nat} : num l a most ≠ .bad 0 w := by
  intro h
  unfold num at h
  split at h
  · rename_i hne
    injection h with e1 e2
    exact hne e1
  · split at h
    · injection h with e1 e2
      cases e1
    · cases h
theorem rdPc_bad {l : List Nat} {a w : Nat} : rdPc l a ≠ .bad 0 w := by
  intro h
  unfold rdPc at h
  split at h
  · injection h with e1 e2
    cases e1
  · split at h
    · split at h
      · injection h with e1 e2
        cases e1
      · cases h
    · split at h
      · cases h1 : num l (a + 1) 4095 with
        | bad e w' => rw [h1] at h; injection h with e1 e2; subst e1; exact num_bad h1
        | got x a1 =>
          rw [h1] at h
          simp only [R.then] at h
          cases h2 : num l a1 4095 with
          | bad e w' => rw [h2] at h; injection h with e1 e2; subst e1; exact num_bad h2
          | got y a2 =>
            rw [h2] at h
            simp only at h
            cases h3 : num l a2 4294967295 with
            | bad e w' => rw [h3] at h; injection h with e1 e2; subst e1; exact num_bad h3
            | got z a3 => rw [h3] at h; cases h
      · injection h with e1 e2
        cases e1
theorem rdPcs_bad {l : List Nat} (hl : ∀ x ∈ l, x < 256) : ∀ (n a w : Nat), rdPcs n l a ≠ .bad 0 w := by
  intro n
  induction n with
  | zero => intro a w h; cases h
  | succ n ih =>
    intro a w h
    unfold rdPcs at h
    cases h1 : rdPc l a with
    | bad e w' => rw [h1] at h; injection h with e1 e2; subst e1; exact rdPc_bad h1
    | got p a1 =>
      rw [h1] at h
      simp only [R.then] at h
      cases h2 : rdPcs n l a1 with
      | bad e w' => rw [h2] at h; injection h with e1 e2; subst e1; exact ih a1 w' h2
      | got Q a2 => rw [h2] at h; cases h
/-- What is read as a file is one. -/
theorem getE_ok {l : List Nat} (hl : ∀ x ∈ l, x < 256) {Q : List Pc} {a : Nat} (h : getE l = (Q, a, 0)) : a = 0 ∧ Vo.May Q ∧ (∀ p ∈ Q, Fits p) ∧ Q.length ≤ 4096 ∧ l = file Q := by
  unfold getE at h
  by_cases hm : l.take 6 = magic
  · rw [if_neg (by rw [hm]; simp)] at h
    cases h1 : num l 6 4096 with
    | bad e w =>
      rw [h1] at h
      simp only [Prod.mk.injEq] at h
      obtain ⟨_, _, he⟩ := h
      subst he
      exact absurd h1 num_bad
    | got n b =>
      rw [h1] at h
      simp only at h
      obtain ⟨n1, n2, n3, n4, n5, n6⟩ := num_got hl h1
      cases h2 : rdPcs n l b with
      | bad e w =>
        rw [h2] at h
        simp only [Prod.mk.injEq] at h
        obtain ⟨_, _, he⟩ := h
        subst he
        exact absurd h2 (rdPcs_bad hl n b w)
      | got Qs s =>
        rw [h2] at h
        simp only at h
        obtain ⟨q1, q2, q3, q4, q5, q6⟩ := rdPcs_got hl n b s Qs n4 h2
        split at h
        · simp at h
        · rename_i g1
          split at h
          · simp at h
          · rename_i g2
            split at h
            · simp at h
            · rename_i g3
              split at h
              · simp at h
              · rename_i g4
                simp only [Prod.mk.injEq] at h
                obtain ⟨e1, e2, _⟩ := h
                subst e1
                have hQl : (Qs.map Prod.fst).length = n := by rw [List.length_map, q2]
                have hbody : l.take s = body (Qs.map Prod.fst) := by
                  have s1 : l.take s = l.take 6 ++ ((l.drop 6).take (b - 6) ++ (l.drop b).take (s - b)) := by
                    rw [show s = 6 + ((b - 6) + (s - b)) by omega, List.take_add, List.take_add, List.drop_drop, show 6 + (b - 6) = b by omega]
                    congr 4
                    omega
                  rw [s1, hm, n5, q5, body, hQl, List.append_assoc]
                refine ⟨e2.symm, (show (Vo.check (Qs.map Prod.fst)).1 = 0 by simpa using g4), q1, by rw [hQl]; exact n1, ?_⟩
                have g2' : (l.drop s).take 4 = four (Cr.of (l.take s)) := by simpa using g2
                have hd : l.drop s = (l.drop s).take 4 := by rw [List.take_of_length_le (by rw [List.length_drop]; omega)]
                rw [file, ← hbody, ← g2', ← hd, List.take_append_drop]
  · rw [if_pos hm] at h
    simp at h
theorem of_file {P : List Pc} (h : ∀ p ∈ P, Fits p) (hn : P.length ≤ 4096) : Cr.of (file P) = Fr.rest := Fr.of_frame (body_lt h hn)
/-- A beginning of a file is none but the file itself. -/
theorem file_begin {P : List Pc} (h : ∀ p ∈ P, Fits p) (hn : P.length ≤ 4096) {k : Nat} (hk : k < (file P).length) : (getE ((file P).take k)).2.2 ≠ 0 := by
  intro he
  obtain ⟨Q, a, hq⟩ : ∃ Q a, getE ((file P).take k) = (Q, a, 0) := ⟨(getE ((file P).take k)).1, (getE ((file P).take k)).2.1, by rw [← he]⟩
  obtain ⟨_, _, h3, h4, h5⟩ := getE_ok (fun x hx => file_lt h hn x (List.mem_of_mem_take hx)) hq
  have e : file P = body Q ++ (four (Cr.of (body Q)) ++ (file P).drop k) := by
    rw [← List.append_assoc]
    show file P = file Q ++ _
    rw [← h5, List.take_append_drop]
  obtain ⟨_, a2, a3⟩ := read_body h hn (four (Cr.of (body P)))
  obtain ⟨_, b2, b3⟩ := read_body h3 h4 (four (Cr.of (body Q)) ++ (file P).drop k)
  change num (file P) 6 4096 = _ at a2
  change rdPcs P.length (file P) _ = _ at a3
  rw [← e, a2] at b2
  injection b2 with e1 e2
  rw [← e, ← e1, a3] at b3
  injection b3 with e3 e4
  have hl := congrArg List.length h5
  rw [List.length_take] at hl
  have f1 := file_len P
  have f2 := file_len Q
  omega
/-- A file of which bytes that stand within four places are others is none. -/
theorem file_near {P : List Pc} (h : ∀ p ∈ P, Fits p) (hn : P.length ≤ 4096) {l : List Nat} (hl : ∀ x ∈ l, x < 256) (hlen : l.length = (file P).length) {p k : Nat} (h4 : k ≤ 4) (ha : l.take p = (file P).take p) (hb : l.drop (p + k) = (file P).drop (p + k)) (hne : l ≠ file P) : (getE l).2.2 ≠ 0 := by
  intro he
  obtain ⟨Q, a, hq⟩ : ∃ Q a, getE l = (Q, a, 0) := ⟨(getE l).1, (getE l).2.1, by rw [← he]⟩
  obtain ⟨_, _, h3, h4', h5⟩ := getE_ok hl hq
  refine hne ((Cr.of_near hl (file_lt h hn) hlen h4 ha hb).1 ?_)
  rw [h5, of_file h3 h4', of_file h hn]
theorem getE_bad {l : List Nat} (h : (getE l).2.2 ≠ 0) : (getE l).1 = [] := by
  unfold getE at h ⊢
  split
  · rfl
  · rename_i h0
    rw [if_neg h0] at h
    split
    · rfl
    · rename_i n b h1
      rw [h1] at h
      simp only at h ⊢
      split
      · rfl
      · rename_i Q s h2
        rw [h2] at h
        simp only at h ⊢
        split
        · rfl
        · rename_i g1
          rw [if_neg g1] at h
          split
          · rfl
          · rename_i g2
            rw [if_neg g2] at h
            split
            · rfl
            · rename_i g3
              rw [if_neg g3] at h
              split
              · rfl
              · rename_i g4
                rw [if_neg g4] at h
                exact absurd rfl h
end Go.Proofs.Ytglkhgchbnkekaa.Vf
namespace Go.Proofs.Ytglkhgchbnkekaa
open Go.RowKit
set_option linter.unusedVariables false

namespace Vf
theorem pcB_len (p : Vo.Pc) : (pcB p).length ≤ 31 := by
  unfold pcB
  have h1 := Mt.put_len_le p.left.toNat
  have h2 := Mt.put_len_le p.right.toNat
  have h3 := Mt.put_len_le p.rank
  split
  · simp; omega
  · simp
theorem pcs_len (P : List Vo.Pc) : (pcs P).length ≤ 31 * P.length := by
  induction P with
  | nil => simp [pcs]
  | cons p P ih => rw [pcs_cons, List.length_append, List.length_cons]; have := pcB_len p; omega
theorem pcs_snoc (P : List Vo.Pc) (p : Vo.Pc) : pcs (P ++ [p]) = pcs P ++ pcB p := by simp [pcs]
end Vf

theorem four_at4 (n : Nat) : ((n : Int) % 256 = ((Cr.byt n 0 : Nat) : Int)) ∧ ((n : Int) / 256 % 256 = ((Cr.byt n 1 : Nat) : Int)) ∧ ((n : Int) / 65536 % 256 = ((Cr.byt n 2 : Nat) : Int)) ∧ ((n : Int) / 16777216 % 256 = ((Cr.byt n 3 : Nat) : Int)) := by
  unfold Cr.byt
  refine ⟨by simp, by simp, by simp, by simp⟩

set_option maxHeartbeats 1000000 in
set_option maxRecDepth 100000 in
theorem rfour_any (n : Nat) (h : Cr.B32 n) (w : World) : Calls Try.prog 29 #[.int .u32 n] w (IsL1 yK (four n) w) := by
  have hn : n < 4294967296 := h
  obtain ⟨h0, h1, h2, h3⟩ := four_at4 n
  have h4 : (n : Int) / 16777216 = ((Cr.byt n 3 : Nat) : Int) := by omega
  have HO : Hid (OwnL yK (w.alloc (.cells #[.int .u8 (Cr.byt n 0 : Nat), .int .u8 (Cr.byt n 1 : Nat), .int .u8 (Cr.byt n 2 : Nat), .int .u8 (Cr.byt n 3 : Nat)] 5)) w.heap.size (.slice (some ⟨w.heap.size, 0, none⟩) 4 4) (four n)) :=
    own_lit w w.heap.size (four n) (four_lt n) (by simp [maxLen, four]) (Nat.le_refl _) 4 rfl _ rfl _ rfl
  clear h3
  go_enter Try.func29, Try.ntmps29
  go_wp2
  go_ret
  exact ⟨_, _, rfl, HO.out, (Below.refl w.heap.size w).alloc (Nat.le_refl _) _⟩

theorem Bv.magic_ (w : World) : Bv (w.alloc (.cells #[.int .u8 115, .int .u8 116, .int .u8 111, .int .u8 111, .int .u8 107, .int .u8 118] 5 (6, 7))) (w.heap.size + 1) (.slice (some ⟨w.heap.size, 0, none⟩) 6 6) Vf.magic := by
  refine ⟨some ⟨w.heap.size, 0, none⟩, 6, rfl, by decide, by simp [maxLen], by simp, by decide, fun _ => ⟨w.heap.size, 0, rfl, by omega, fun j c hj => ?_⟩⟩
  rw [Nat.zero_add, World.cell?_alloc_mark]
  have hl : j < 6 := (List.getElem?_eq_some_iff.1 hj).1
  have h : ∀ j, j < 6 → ∀ c, Vf.magic[j]? = some c → #[Value.int .u8 115, .int .u8 116, .int .u8 111, .int .u8 111, .int .u8 107, .int .u8 118][j]? = some (.int .u8 (c : Nat)) := by
    intro j hj c hc
    rcases j with _|_|_|_|_|_|j
    all_goals first | (simp [Vf.magic] at hc; subst hc; rfl) | omega
  exact h j hl c hj

set_option maxHeartbeats 2000000 in
set_option maxRecDepth 100000 in
theorem rvfput_any (P : List Vo.Pc) (v : Value) (B : Nat) (w : World) (hv : Lv pK w B v P) (hB : B ≤ w.heap.size) :
    Calls Try.prog 11 #[.agg #[v]] w (IsLE yK (Vf.putE P) w) := by
  obtain ⟨A, c, rfl, -, -, -, hpok, -⟩ := id hv
  obtain ⟨W, hW⟩ : ∃ W, w.alloc (.cells #[.slice A P.length c] 24) = W := ⟨_, rfl⟩
  obtain ⟨d0, hsz, hb⟩ := boxed hW
  have HSZ := Lib.hid hsz
  have HB := Lib.hid hb
  have HBB := Lib.hid hB
  have HV := Lib.hid (hv.below_ hb hB)
  have HM := Lib.hid (rmay_voc P _ B W HV.out (by omega))
  by_cases hm : Vo.May P
  · have HE : Hid (Vf.putE P = (Vf.file P, 0)) := if_pos hm
    rw [decide_eq_true hm] at HM
    have hle := (Vo.may_iff.1 hm).1
    have HF : Hid (∀ p ∈ P, Vf.Fits p) := Vf.may_fits hm (fun p hp => (hpok p hp).2.2.2) (fun p hp => (hpok p hp).1)
    obtain ⟨n, hn⟩ : ∃ n, P.length = n := ⟨_, rfl⟩
    have HN := Lib.hid hn
    rw [hn] at hW d0 HV HM hle ⊢
    have HPut : Hid (∀ w, Calls Try.prog 27 #[.int .u64 (n : Nat)] w (IsO (Mt.put n) w)) := fun w => (rput_any 9 n w (by omega) (Vf.b64_of (by omega))).mono fun e w' h => h.o
    have wN : IntKind.u64.wrap (n : Int) = (n : Int) := by rw [IntKind.wrap_u64]; omega
    clear hv hsz hb hpok hm hB hn
    go_enter Try.func11, Try.ntmps11
    go_wp2_with (fail)
    refine (HM.out).mono ?_
    rintro e w1 ⟨rfl, hb1⟩
    have e0 := (hb1.cell (p := ⟨w.heap.size, 0, none⟩) (by have := HSZ.out; show w.heap.size < _; omega)).trans d0
    have HB1 := Lib.hid hb1
    clear hb1 HM
    have kc := Lib.run_convert_bytes_const w1 27 5 #[.int .u8 115, .int .u8 116, .int .u8 111, .int .u8 111, .int .u8 107, .int .u8 118] 6 6 Try.underlying27 Try.underlying5
    have hm6 := (Bv.magic_ w1).lv_
    obtain ⟨W2, hW2⟩ : ∃ W2, w1.alloc (.cells #[.int .u8 115, .int .u8 116, .int .u8 111, .int .u8 111, .int .u8 107, .int .u8 118] 5 (6, 7)) = W2 := ⟨_, rfl⟩
    rw [hW2] at hm6
    change _ = Result.ok _ (w1.alloc (.cells #[.int .u8 115, .int .u8 116, .int .u8 111, .int .u8 111, .int .u8 107, .int .u8 118] 5 (6, 7))) at kc
    rw [hW2] at kc
    have hb2 : Below w1.heap.size w1 W2 := by rw [← hW2]; exact (Below.refl _ _).alloc (Nat.le_refl _) _
    have hz2 : W2.heap.size = w1.heap.size + 1 := by rw [← hW2]; simp
    have HB2 : Hid (Below W.heap.size W W2) := HB1.out.trans (hb2.mono HB1.out.size)
    have f0 : W2.cell? ⟨w.heap.size, 0, none⟩ = some (.slice A n c) := (hb2.cell (p := ⟨w.heap.size, 0, none⟩) (by have := HSZ.out; have := HB1.out.size; show w.heap.size < _; omega)).trans e0
    have HM6 := Lib.hid hm6
    have HZ2 := Lib.hid hz2
    clear hm6 hb2 hz2 HB1 hW2
    go_wp2_with (fail)
    refine (HPut.out W2).mono ?_
    rintro e w3 ⟨A3, c3, rfl, o3, hb3, -⟩
    have n10 := Mt.put_len_le n
    have hpos := List.length_pos_iff.2 (Mt.put_ne n)
    have HM3 := Lib.hid ((HM6.out.below_ hb3 (by have := HZ2.out; omega)))
    have HB3 : Hid (Below W.heap.size W w3) := HB2.out.trans (hb3.mono HB2.out.size)
    have HO3 := Lib.hid o3
    obtain ⟨mp, hmp⟩ : ∃ l, Mt.put n = l := ⟨_, rfl⟩
    rw [hmp] at HO3 n10 hpos ⊢
    have HMP := Lib.hid hmp
    clear o3 hb3 HM6 HZ2 HB2 e0 f0 kc HPut hmp
    go_wp2_with (at_builtin; go_must (refine wpList_append_fullL _ yK rfl _ _ rfl ⟨w1.heap.size, 0, none⟩ _ 6 Vf.magic rfl rfl HM3.out (by decide) _ rfl _ mp HO3.out hpos (by show (6 + _) * 1 ≤ _; omega) (by simp only [maxLen]; omega) ?_; intro A4 c4 w4 hA hG))
    obtain ⟨L0, hL0⟩ : ∃ l, Vf.magic ++ mp = l := ⟨_, rfl⟩
    have hn6 : L0.length ≤ 16 := by rw [← hL0, List.length_append, Vf.magic_len]; omega
    have HBd : Hid (∀ Q, L0 ++ Vf.pcs Q = Vf.magic ++ Mt.put n ++ Vf.pcs Q) := fun Q => by rw [HMP.out, hL0]
    rw [hL0] at hA
    rw [← List.length_append, hL0]
    have HO4 := Lib.hid (hA.mono_ HB3.out.size)
    have HB4 : Hid (Below W.heap.size W w4) := HB3.out.grown hG HB3.out.size (fun k hk => by cases hk)
    have HN6 := Lib.hid hn6
    clear hA hG HM3 HO3 HB3 n10 hpos hL0 hn6 HMP
    go_loopw [4, 6] (fun s i wr => ∃ (k : Nat) (A5 : Option Addr) (c5 : Nat) (l : List Nat), k ≤ n ∧ s = .slice A5 l.length c5 ∧ i = .int .i64 k ∧ Hid (l = L0 ++ Vf.pcs (P.take k)) ∧ Hid (OwnL yK wr W.heap.size (.slice A5 l.length c5) l) ∧ Below W.heap.size W wr) (fun _ i _ => n - (intOf i).toNat)
    case atStart => exact ⟨0, A4, c4, L0, Nat.zero_le _, rfl, rfl, by unfold Hid; simp [Vf.pcs], HO4.out, HB4.out⟩
    case round =>
      obtain ⟨k, A5, c5, l, hk, rfl, rfl, HL, HO, hbr⟩ := hrel
      have HBR := Lib.hid hbr
      have e0 := (hbr.cell (p := ⟨w.heap.size, 0, none⟩) (by have := HSZ.out; show w.heap.size < _; omega)).trans d0
      have hlen : l.length ≤ 16 + 31 * k := by
        have := Vf.pcs_len (P.take k)
        have h2 := HN6.out
        have h3 := HN.out
        rw [List.length_take] at this
        rw [HL.out, List.length_append]
        omega
      clear hbr
      by_cases hlt : k < n
      · have g1 : (k : Int) < (n : Int) := by omega
        have hkP : k < P.length := by have := HN.out; omega
        obtain ⟨b, off, p, rfl, hbB, hpok, hq, c0, c1, c2, c3, c4⟩ := (HV.out.below_ (HBR.out.mono (show B ≤ W.heap.size by have := HSZ.out; have := HBB.out; omega)) (Nat.le_refl _)).piece_ hkP
        have HC := Lib.hid (rpiece_any p (HF.out p (List.mem_of_getElem? hq)) wr)
        have HTK : Hid (Vf.pcs (P.take (k + 1)) = Vf.pcs (P.take k) ++ Vf.pcB p) := by unfold Hid; rw [take_snoc hq, Vf.pcs_snoc]
        have hpl := Vf.pcB_len p
        obtain ⟨m, hm⟩ : ∃ m, Vf.pcB p = m := ⟨_, rfl⟩
        rw [hm] at HC HTK hpl
        obtain ⟨pj, pb, pl, pr, pk⟩ := p
        unfold pcV at HC
        simp only at HC c0 c1 c2 c3 c4
        have hwk : IntKind.i64.wrap ((k : Int) + 1) = (k : Int) + 1 := by rw [IntKind.wrap_i64]; omega
        clear hm hq hpok hbB
        go_wp2_with (fail)
        refine (HC.out).mono ?_
        rintro e w5 ⟨A6, c6, rfl, ho6, hb6⟩
        have HO5 := Lib.hid (HO.out.below_ hb6 (Nat.le_refl _))
        have HO6 := Lib.hid ho6
        have HB5 : Hid (Below W.heap.size W w5) := HBR.out.trans (hb6.mono HBR.out.size)
        have hbase : W.heap.size ≤ w5.heap.size := HB5.out.size
        have HLT := Lib.hid hlt
        have HLN := Lib.hid hlen
        clear ho6 hb6 HC HO HBR e0 c0 c1 c2 c3 c4 hlt
        go_wp2_with (at_builtin; go_must (refine wpList_append_l _ yK rfl _ _ rfl W.heap.size _ rfl l HO5.out _ rfl w5.heap.size m HO6.out.form_ (by show (_ + _) * 1 ≤ _; omega) (by simp only [maxLen]; omega) hbase ?_; intro A7 c7 w7 hA hG))
        have HO7 := Lib.hid hA
        have HB7 : Hid (Below W.heap.size W w7) := HB5.out.grown hG HB5.out.size (fun j hj => (HO5.out.lt_ j hj).1)
        clear hA hG HO5 HB5 hbase
        go_wp2
        exact ⟨⟨k + 1, A7, c7, l ++ m, by have := HLT.out; omega, by rw [List.length_append], by go_num, by unfold Hid; rw [HTK.out, HL.out, List.append_assoc], HO7.out, HB7.out⟩, by have := HLT.out; simp [intOf]; omega⟩
      · have g1 : ¬ (k : Int) < (n : Int) := by omega
        obtain rfl : k = n := by omega
        have HBo : Hid (l = Vf.body P) := by
          unfold Hid
          rw [HL.out, List.take_of_length_le (by rw [HN.out]; exact Nat.le_refl _), HBd.out]
          unfold Vf.body
          rw [HN.out]
        have hlt6 : ∀ x ∈ l, x < 256 := by rw [HBo.out]; exact Vf.body_lt HF.out (by rw [HN.out]; exact hle)
        have HC := Lib.hid (rof_any _ l _ wr HO.out.form_.bv_)
        have HB32 := Lib.hid (Cr.of_b32 hlt6)
        have HFi : Hid (Vf.file P = l ++ four (Cr.of l)) := by unfold Hid; rw [HBo.out]; rfl
        obtain ⟨s, hs⟩ : ∃ s, Cr.of l = s := ⟨_, rfl⟩
        rw [hs] at HC HB32 HFi
        have HFo := Lib.hid (rfour_any s HB32.out wr)
        clear hs hlt6 HL HBo
        go_wp2_with (fail)
        refine (HC.out).mono ?_
        rintro e w5 ⟨rfl, rfl⟩
        go_wp2_with (fail)
        refine (HFo.out).mono ?_
        rintro e w6 ⟨A6, c6, rfl, ho6, hb6⟩
        have HO5 := Lib.hid (HO.out.below_ hb6 (Nat.le_refl _))
        have HO6 := Lib.hid ho6
        have HB5 : Hid (Below W.heap.size W w6) := HBR.out.trans (hb6.mono HBR.out.size)
        have hbase : W.heap.size ≤ w6.heap.size := HB5.out.size
        have h4 := four_len s
        clear ho6 hb6 HC HO HBR e0 HFo
        go_wp2_with (at_builtin; go_must (refine wpList_append_l _ yK rfl _ _ rfl W.heap.size _ rfl l HO5.out _ rfl w6.heap.size (four s) HO6.out.form_ (by rw [h4]; show (_ + _) * 1 ≤ _; omega) (by rw [h4]; simp only [maxLen]; omega) hbase ?_; intro A7 c7 w7 hA hG))
        have HO7 := Lib.hid hA
        have HB7 : Hid (Below W.heap.size W w7) := HB5.out.grown hG HB5.out.size (fun j hj => (HO5.out.lt_ j hj).1)
        clear hA hG HO5 HB5 hbase
        go_wp2
        go_ret2
        exact IsLE.of HE.out (by rw [HFi.out, List.length_append]; rfl) rfl (by rw [HFi.out]; have h := HO7.out.mono_ (show w.heap.size ≤ W.heap.size by have := HSZ.out; omega); rw [List.length_append] at h; exact h) (HB.out.trans (HB7.out.mono HB.out.size))
  · have HE : Hid (Vf.putE P = ([], 11)) := if_neg hm
    rw [decide_eq_false hm] at HM
    clear hv hsz hb hpok hm hB
    go_enter Try.func11, Try.ntmps11
    go_wp2_with (fail)
    refine (HM.out).mono ?_
    rintro e w1 ⟨rfl, hb1⟩
    have HB1 := Lib.hid (HB.out.trans (hb1.mono (by have := HSZ.out; omega)))
    clear hb1 HM
    go_wp2
    go_ret2
    exact IsLE.none_b HE.out rfl HB1.out
end Go.Proofs.Ytglkhgchbnkekaa
