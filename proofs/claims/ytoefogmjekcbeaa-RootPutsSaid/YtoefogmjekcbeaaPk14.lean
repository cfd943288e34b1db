/-
  PgZ: A page of noughts, as an array's zero value.
  PgMath: Plain mathematics of chapter 15 (page): a page's bytes.
  PgC: page.whole's size; a page without its sum.
-/
import Derived.Test.YtoefogmjekcbeaaPk13
import Derived.Test.YtoefogmjekcbeaaPk08
import Derived.Test.YtoefogmjekcbeaaPk05
namespace Go.Proofs.Ytoefogmjekcbeaa
open Go.RowKit
set_option linter.unusedVariables false
/-- The cells of a page of noughts. -/
def none512 : Array Value := bvs (List.replicate 512 0)
set_option maxRecDepth 100000 in
theorem zero512 : (Try.prog.info? 50).map (fun i => (i.zero, i.size)) = some (some (.agg none512), 512) := by kernel_rfl
theorem zero512V : ∀ w, (zeroValue 50).run Try.prog w = .ok (.agg none512) w := (zero_of_info (n := 512) zero512).1
theorem none512_size : none512.size = 512 := by rw [none512, bvs_size]; exact List.length_replicate
set_option maxHeartbeats 1000000 in
set_option maxRecDepth 100000 in
/-- A page with these four bytes in its sum's place. -/
theorem psummed_any (p s : List Nat) (hl : p.length = 512) (hs : s.length = 4) (h8 : ∀ x ∈ s, x < 256) (w : World) :
    Calls Try.prog 30 #[.agg (bvs p), .agg (bvs s)] w (fun e w' => e = .returned (.agg (bvs (pu p 0 s))) ∧ Below w.heap.size w w') := by
  have hz := zero512V
  obtain ⟨D, hD⟩ : ∃ D, bvs p = D := ⟨_, rfl⟩
  obtain ⟨E, hE⟩ : ∃ D, bvs s = D := ⟨_, rfl⟩
  have HNS := Lib.hid none512_size
  obtain ⟨Z, hZ⟩ : ∃ Z, none512 = Z := ⟨_, rfl⟩
  rw [hZ] at hz HNS
  obtain ⟨W, hW⟩ : ∃ W, ((w.alloc (.cells D 50)).alloc (.cells E 53)).alloc (.cells Z 50) = W := ⟨_, rfl⟩
  have hD0 : Rw W w.heap.size 50 (bvs p) := by rw [← hW, hD]; exact ((Rw.new w _ _).old _).old _
  have hE1 : Rw W (w.heap.size + 1) 53 (bvs s) := by rw [← hW, hE]; exact (Rw.at_ (by simp) _ _).old _
  have HZ2 : Hid (Rw W (w.heap.size + 2) 50 Z) := by unfold Hid; rw [← hW]; exact Rw.at_ (by simp) _ _
  have HBW : Hid (Below w.heap.size w W) := by unfold Hid; rw [← hW]; exact (((Below.refl _ _).alloc (Nat.le_refl _) _).alloc (by simp) _).alloc (by simp; omega) _
  have hbv := hE1.bv_ h8 (k := 0) (m := 4) (c := 4) (B := W.heap.size) (by omega) (Nat.le_refl _) (by simp [maxLen]) hE1.lt
  rw [List.drop_zero, List.take_of_length_le (by omega)] at hbv
  have hpl := pu_len (z := p) (m := s) (k := 0) (by omega)
  obtain ⟨w2, hc, hr2, hg2⟩ := copy_arr (w := W.drew) (k := 0) (dl := 512) (dc := 512) hD0.drew (m := s) (B := W.heap.size) (x := .slice (some ⟨w.heap.size + 1, 0, none⟩) 4 4) hbv (by omega) (by omega)
  rw [hs] at hc
  have HZ3 : Hid (Rw w2 (w.heap.size + 2) 50 Z) := (hg2.block _ (by have := HZ2.out.lt; simpa using this) (by intro e; injection e with e; omega)).trans HZ2.out
  have HBX : Hid (Below w.heap.size w w2) := HBW.out.drew.grown hg2 (by have := HBW.out.size; simpa using this) (fun k hk => by injection hk with hk; omega)
  have HS := Lib.hid (size512l (hpl.trans hl))
  have HO := Lib.hid (bvs_one (pu p 0 s))
  have HLS : Hid (Z.size = (bvs (pu p 0 s)).size) := by unfold Hid; rw [HNS.out, bvs_size, hpl, hl]
  obtain ⟨C, hC⟩ : ∃ C, bvs (pu p 0 s) = C := ⟨_, rfl⟩
  rw [hC] at HS HO HLS hr2 ⊢
  have HR2 := Lib.hid hr2
  have HC := Lib.hid hc
  rw [hD, hE]
  clear hD0 hE1 hbv hD hE hs h8 hl hC hZ hr2 hg2 hpl HZ2 HBW HNS
  go_enter Try.func30, Try.ntmps30
  go_wp2
  have hc := HC.out
  go_region
  clear hc HC hW hz
  go_wp2_with (first
    | (refine wpList_load_row rfl _ _ rfl w.heap.size rfl 50 C (0, 0) _ HR2.out Try.underlying50 rfl HS.out ?_)
    | (refine wpList_store_row rfl _ _ _ rfl (w.heap.size + 2) C rfl rfl 50 _ HZ3.out HS.out HLS.out HO.out ?_))
  refine bodyPost_ret (v := .agg C) (results_cell_row rfl _ _ (w.heap.size + 2) 50 C (0, 0) _ rfl (Rw.row HZ3.out C) Try.underlying50 rfl HS.out) rfl ⟨rfl, below_setRow HBX.out (by omega) _⟩
end Go.Proofs.Ytoefogmjekcbeaa
namespace Go.Proofs.Ytoefogmjekcbeaa.Pg
/-- What stands behind a page's sum, ahead of its body. -/
def head (n kind m : Nat) : List Nat := [n % 256, n / 256 % 256, n / 65536 % 256, n / 16777216 % 256, kind, 0, m % 256, m / 256 % 256]
def rest (n kind : Nat) (b : List Nat) : List Nat := head n kind b.length ++ b ++ List.replicate (500 - b.length) 0
def page (n kind : Nat) (b : List Nat) : List Nat := four (Cr.of (rest n kind b)) ++ rest n kind b
def putE (n : Int) (kind : Nat) (b : List Nat) : List Nat × Nat :=
  if n < 0 ∨ 65536 ≤ n then ([], 2) else if 496 < b.length then ([], 3) else (page n.toNat kind b, 0)
def size (b : List Nat) : Nat := b.getD 10 0 + 256 * b.getD 11 0
def body (b : List Nat) : List Nat := (b.drop 12).take (size b)
def getE (n : Int) (b : List Nat) : Nat × List Nat × Nat :=
  if n < 0 ∨ 65536 ≤ n then (0, [], 2) else if b.length < 512 then (0, [], 4) else if 512 < b.length then (0, [], 5)
  else if b.take 4 ≠ four (Cr.of (b.drop 4)) then (0, [], 6)
  else if 496 < size b then (0, [], 5)
  else if page n.toNat (b.getD 8 0) (body b) ≠ b then (0, [], 5)
  else (b.getD 8 0, body b, 0)
section
variable {n : Int} {k : Nat} {b : List Nat}
theorem putE_arg (h : n < 0 ∨ 65536 ≤ n) : putE n k b = ([], 2) := if_pos h
theorem putE_lim (h : ¬ (n < 0 ∨ 65536 ≤ n)) (hb : 496 < b.length) : putE n k b = ([], 3) := by unfold putE; rw [if_neg h, if_pos hb]
theorem putE_ok (h : ¬ (n < 0 ∨ 65536 ≤ n)) (hb : ¬ 496 < b.length) : putE n k b = (page n.toNat k b, 0) := by unfold putE; rw [if_neg h, if_neg hb]
theorem getE_arg (h : n < 0 ∨ 65536 ≤ n) : getE n b = (0, [], 2) := if_pos h
theorem getE_short (h : ¬ (n < 0 ∨ 65536 ≤ n)) (h1 : b.length < 512) : getE n b = (0, [], 4) := by unfold getE; rw [if_neg h, if_pos h1]
theorem getE_long (h : ¬ (n < 0 ∨ 65536 ≤ n)) (h1 : ¬ b.length < 512) (h2 : 512 < b.length) : getE n b = (0, [], 5) := by unfold getE; rw [if_neg h, if_neg h1, if_pos h2]
theorem getE_sum (h : ¬ (n < 0 ∨ 65536 ≤ n)) (h1 : ¬ b.length < 512) (h2 : ¬ 512 < b.length) (h3 : b.take 4 ≠ four (Cr.of (b.drop 4))) : getE n b = (0, [], 6) := by
  unfold getE; rw [if_neg h, if_neg h1, if_neg h2, if_pos h3]
theorem getE_size (h : ¬ (n < 0 ∨ 65536 ≤ n)) (h1 : ¬ b.length < 512) (h2 : ¬ 512 < b.length) (h3 : b.take 4 = four (Cr.of (b.drop 4))) (h4 : 496 < size b) : getE n b = (0, [], 5) := by
  unfold getE; rw [if_neg h, if_neg h1, if_neg h2, if_neg (by simpa using h3), if_pos h4]
theorem getE_form (h : ¬ (n < 0 ∨ 65536 ≤ n)) (h1 : ¬ b.length < 512) (h2 : ¬ 512 < b.length) (h3 : b.take 4 = four (Cr.of (b.drop 4))) (h4 : ¬ 496 < size b) (h5 : page n.toNat (b.getD 8 0) (body b) ≠ b) : getE n b = (0, [], 5) := by
  unfold getE; rw [if_neg h, if_neg h1, if_neg h2, if_neg (by simpa using h3), if_neg h4, if_pos h5]
theorem getE_ok (h : ¬ (n < 0 ∨ 65536 ≤ n)) (h1 : ¬ b.length < 512) (h2 : ¬ 512 < b.length) (h3 : b.take 4 = four (Cr.of (b.drop 4))) (h4 : ¬ 496 < size b) (h5 : page n.toNat (b.getD 8 0) (body b) = b) : getE n b = (b.getD 8 0, body b, 0) := by
  unfold getE; rw [if_neg h, if_neg h1, if_neg h2, if_neg (by simpa using h3), if_neg h4, if_neg (by simpa using h5)]
end
theorem head_len (n k m : Nat) : (head n k m).length = 8 := rfl
theorem head_lt {n k m : Nat} (hk : k < 256) : ∀ x ∈ head n k m, x < 256 := by
  intro x hx
  simp only [head, List.mem_cons, List.not_mem_nil, or_false] at hx
  rcases hx with rfl | rfl | rfl | rfl | rfl | rfl | rfl | rfl <;> omega
theorem rest_len {n k : Nat} {b : List Nat} (hb : b.length ≤ 496) : (rest n k b).length = 508 := by
  simp only [rest, List.length_append, head_len, List.length_replicate]; omega
theorem rest_lt {n k : Nat} {b : List Nat} (hk : k < 256) (hb : ∀ x ∈ b, x < 256) : ∀ x ∈ rest n k b, x < 256 := by
  intro x hx
  rcases List.mem_append.1 hx with h | h
  · rcases List.mem_append.1 h with h | h
    · exact head_lt hk x h
    · exact hb x h
  · rw [List.eq_of_mem_replicate h]; omega
theorem page_len {n k : Nat} {b : List Nat} (hb : b.length ≤ 496) : (page n k b).length = 512 := by
  rw [page, List.length_append, rest_len hb]; rfl
theorem page_lt {n k : Nat} {b : List Nat} (hk : k < 256) (hb : ∀ x ∈ b, x < 256) : ∀ x ∈ page n k b, x < 256 := by
  intro x hx
  rcases List.mem_append.1 hx with h | h
  · exact four_lt _ x h
  · exact rest_lt hk hb x h
theorem page_take (n k : Nat) (b : List Nat) : (page n k b).take 4 = four (Cr.of (rest n k b)) := List.take_left' rfl
theorem page_drop (n k : Nat) (b : List Nat) : (page n k b).drop 4 = rest n k b := List.drop_left' rfl
theorem page_at (n k : Nat) (b : List Nat) {i : Nat} (hi : i < 8) : (page n k b).getD (4 + i) 0 = (head n k b.length).getD i 0 := by
  have h1 : (page n k b)[4 + i]? = (head n k b.length)[i]? := by
    rw [← List.getElem?_drop, page_drop, rest, List.append_assoc, List.getElem?_append_left (by rw [head_len]; exact hi)]
  rw [List.getD_eq_getElem?_getD, List.getD_eq_getElem?_getD, h1]
theorem page_size {n k : Nat} {b : List Nat} (hb : b.length ≤ 496) : size (page n k b) = b.length := by
  unfold size
  have h6 := page_at n k b (i := 6) (by omega)
  have h7 := page_at n k b (i := 7) (by omega)
  rw [show 10 = 4 + 6 from rfl, show 11 = 4 + 7 from rfl, h6, h7]
  show b.length % 256 + 256 * (b.length / 256 % 256) = _
  omega
theorem page_body {n k : Nat} {b : List Nat} (hb : b.length ≤ 496) : body (page n k b) = b := by
  unfold body
  rw [page_size hb, show 12 = 4 + 8 from rfl, ← List.drop_drop, page_drop, rest, List.append_assoc, List.drop_left' (head_len _ _ _), List.take_left' rfl]
theorem page_kind (n k : Nat) (b : List Nat) : (page n k b).getD 8 0 = k := page_at n k b (i := 4) (by omega)
/-- Get of Put is it. -/
theorem getE_put {n : Int} {k : Nat} {b p : List Nat} (h : putE n k b = (p, 0)) : getE n p = (k, b, 0) ∧ p = page n.toNat k b ∧ b.length ≤ 496 ∧ 0 ≤ n ∧ n < 65536 := by
  by_cases h1 : n < 0 ∨ 65536 ≤ n
  · rw [putE_arg h1] at h; simp at h
  · by_cases h2 : 496 < b.length
    · rw [putE_lim h1 h2] at h; simp at h
    · rw [putE_ok h1 h2] at h
      simp only [Prod.mk.injEq, and_true] at h
      subst h
      have hl := page_len (n := n.toNat) (k := k) (show b.length ≤ 496 by omega)
      refine ⟨?_, rfl, by omega, by omega, by omega⟩
      have hk := page_kind n.toNat k b
      have hb := page_body (n := n.toNat) (k := k) (show b.length ≤ 496 by omega)
      have hs := page_size (n := n.toNat) (k := k) (show b.length ≤ 496 by omega)
      have := getE_ok (n := n) (b := page n.toNat k b) h1 (by omega) (by omega) (by rw [page_take, page_drop]) (by rw [hs]; omega) (by rw [hk, hb])
      rwa [hk, hb] at this
/-- Where Get answers OK, Put of it are the bytes. -/
theorem putE_get {n : Int} {k : Nat} {b c : List Nat} (h : getE n b = (k, c, 0)) : putE n k c = (b, 0) := by
  by_cases h0 : n < 0 ∨ 65536 ≤ n
  · rw [getE_arg h0] at h; simp at h
  by_cases h1 : b.length < 512
  · rw [getE_short h0 h1] at h; simp at h
  by_cases h2 : 512 < b.length
  · rw [getE_long h0 h1 h2] at h; simp at h
  by_cases h3 : b.take 4 = four (Cr.of (b.drop 4))
  · by_cases h4 : 496 < size b
    · rw [getE_size h0 h1 h2 h3 h4] at h; simp at h
    by_cases h5 : page n.toNat (b.getD 8 0) (body b) = b
    · rw [getE_ok h0 h1 h2 h3 h4 h5] at h
      simp only [Prod.mk.injEq, and_true] at h
      obtain ⟨rfl, rfl⟩ := h
      have hl : (body b).length ≤ 496 := by unfold body; rw [List.length_take]; omega
      rw [putE_ok h0 (by omega), h5]
    · rw [getE_form h0 h1 h2 h3 h4 h5] at h; simp at h
  · rw [getE_sum h0 h1 h2 h3] at h; simp at h
/-- What Get answers with an error. -/
theorem getE_bad {n : Int} {k e : Nat} {b c : List Nat} (h : getE n b = (k, c, e)) (he : e ≠ 0) : k = 0 ∧ c = [] := by
  by_cases h0 : n < 0 ∨ 65536 ≤ n
  · rw [getE_arg h0] at h; simp only [Prod.mk.injEq] at h; exact ⟨h.1.symm, h.2.1.symm⟩
  by_cases h1 : b.length < 512
  · rw [getE_short h0 h1] at h; simp only [Prod.mk.injEq] at h; exact ⟨h.1.symm, h.2.1.symm⟩
  by_cases h2 : 512 < b.length
  · rw [getE_long h0 h1 h2] at h; simp only [Prod.mk.injEq] at h; exact ⟨h.1.symm, h.2.1.symm⟩
  by_cases h3 : b.take 4 = four (Cr.of (b.drop 4))
  · by_cases h4 : 496 < size b
    · rw [getE_size h0 h1 h2 h3 h4] at h; simp only [Prod.mk.injEq] at h; exact ⟨h.1.symm, h.2.1.symm⟩
    by_cases h5 : page n.toNat (b.getD 8 0) (body b) = b
    · rw [getE_ok h0 h1 h2 h3 h4 h5] at h
      simp only [Prod.mk.injEq] at h
      omega
    · rw [getE_form h0 h1 h2 h3 h4 h5] at h; simp only [Prod.mk.injEq] at h; exact ⟨h.1.symm, h.2.1.symm⟩
  · rw [getE_sum h0 h1 h2 h3] at h; simp only [Prod.mk.injEq] at h; exact ⟨h.1.symm, h.2.1.symm⟩
end Go.Proofs.Ytoefogmjekcbeaa.Pg
namespace Go.Proofs.Ytoefogmjekcbeaa
open Go.RowKit
set_option linter.unusedVariables false
/-- The number that the first k of these bytes make, the lowest first. -/
def lo2 (p : List Nat) : Nat → Nat
  | 0 => 0
  | k + 1 => lo2 p k + p.getD (10 + k) 0 * 256 ^ k
theorem or_lo64 {n x k : Nat} (hn : n < 256 ^ k) (hk : k < 7) (hx : x < 256) :
    bits BinOp.or IntKind.i64 (n : Int) (IntKind.i64.wrap ((x : Int) * 2 ^ (8 * k))) = ((n + x * 256 ^ k : Nat) : Int) := by
  have hp : (2 : Nat) ^ (8 * k) = 256 ^ k := by rw [Nat.pow_mul]
  have h56 : 256 ^ k ≤ 256 ^ 6 := Nat.pow_le_pow_right (by omega) (by omega)
  have hx2 : x * 256 ^ k ≤ 255 * 256 ^ 6 := Nat.mul_le_mul (by omega) h56
  simp only [Nat.reducePow, Nat.reduceMul] at h56 hx2
  have e : ((x : Int) * 2 ^ (8 * k)) = ((x * 256 ^ k : Nat) : Int) := by rw [← hp]; push_cast; rfl
  have hw : IntKind.i64.wrap ((x * 256 ^ k : Nat) : Int) = ((x * 256 ^ k : Nat) : Int) := by rw [IntKind.wrap_i64]; omega
  rw [e, hw, (bits_nat .i64 63 (by decide) (fun n h0 h1 => by rw [IntKind.wrap_i64]; omega) n _ (by omega) (by omega)).2]
  have h := Nat.two_pow_add_eq_or_of_lt (i := 8 * k) (b := n) (by rw [hp]; exact hn) x
  rw [hp] at h
  rw [Nat.or_comm, Nat.mul_comm x, ← h, Nat.add_comm]
theorem wrap_of64 (x : Int) : IntKind.i64.wrap x = wrap64 x := by rw [IntKind.wrap_i64]; unfold wrap64; rfl
set_option maxHeartbeats 1000000 in
set_option maxRecDepth 100000 in
theorem psize_any (p : List Nat) (hl : p.length = 512) (h8 : ∀ x ∈ p, x < 256) (w : World) :
    Calls Try.prog 35 #[.agg (bvs p)] w (fun e w' => e = .returned (.int .i64 (Pg.size p : Nat)) ∧ Below w.heap.size w w') := by
  obtain ⟨D, hD⟩ : ∃ D, bvs p = D := ⟨_, rfl⟩
  obtain ⟨W, hW⟩ : ∃ W, w.alloc (.cells D 50) = W := ⟨_, rfl⟩
  have HD : Hid (Rw W w.heap.size 50 (bvs p)) := by unfold Hid; rw [← hW, hD]; exact Rw.new w _ _
  have HBW : Hid (Below w.heap.size w W) := by unfold Hid; rw [← hW]; exact (Below.refl _ _).alloc (Nat.le_refl _) _
  have HL := Lib.hid hl
  have H8 := Lib.hid h8
  rw [hD]
  clear hD hl h8
  go_enter Try.func35, Try.ntmps35
  go_wp2
  go_loopw [3, 8] (fun n i wr => ∃ k : Nat, k ≤ 2 ∧ n = .int .i64 (lo2 p k : Nat) ∧ i = .int .i64 k ∧ wr = W) (fun _ i _ => 2 - (intOf i).toNat)
  case atStart => exact ⟨0, by omega, rfl, rfl, rfl⟩
  case round =>
    obtain ⟨k, hk, rfl, rfl, rfl⟩ := hrel
    by_cases hlt : k < 2
    · have hl := HL.out
      obtain ⟨x, hx⟩ : ∃ x, p[10 + k]? = some x := ⟨_, List.getElem?_eq_getElem (by omega)⟩
      have hx8 : x < 256 := H8.out x (List.mem_of_getElem? hx)
      have hc := HD.out.byte hx
      have hn : lo2 p k < 256 ^ k := by
        rcases (show k = 0 ∨ k = 1 by omega) with rfl | rfl
        · simp [lo2]
        · have : p.getD (10 + 0) 0 < 256 := by
            rw [List.getD_eq_getElem?_getD]
            cases hq : p[10 + 0]? with
            | none => simp
            | some y => exact H8.out y (List.mem_of_getElem? hq)
          simp only [lo2]; omega
      have ho := or_lo64 hn (by omega) hx8
      have e : lo2 p (k + 1) = lo2 p k + x * 256 ^ k := by rw [lo2, List.getD_eq_getElem?_getD, hx]; rfl
      rw [← e] at ho
      rw [wrap_of64] at ho
      clear e hn hx hl
      go_wp2
      exact ⟨⟨k + 1, by omega, rfl, by go_num, trivial⟩, by simp [intOf]; omega⟩
    · have h0 : k = 2 := by omega
      subst h0
      have e : lo2 p 2 = Pg.size p := by simp only [lo2, Pg.size, Nat.reduceAdd]; omega
      rw [e]
      go_wp2
      go_ret
      exact ⟨rfl, HBW.out⟩
theorem unsummed_list (n k : Nat) (b : List Nat) (hb : b.length ≤ 496) : pu (pu ((pu (List.replicate 512 0) 4 (bts n 4)).set 8 k) 10 (bts b.length 2)) 12 b = [0, 0, 0, 0] ++ Pg.rest n k b := by
  have e0 : List.replicate 512 0 = [0, 0, 0, 0] ++ ([0, 0, 0, 0] ++ ([0, 0, 0, 0] ++ (List.replicate b.length 0 ++ List.replicate (500 - b.length) 0))) := by
    rw [List.replicate_append_replicate, show b.length + (500 - b.length) = 500 by omega]; rfl
  obtain ⟨R, hR⟩ : ∃ R, List.replicate b.length 0 = R := ⟨_, rfl⟩
  have hRl : b.length = R.length := by rw [← hR, List.length_replicate]
  rw [hR] at e0
  rw [e0, pu_mid (a := [0, 0, 0, 0]) (b := [0, 0, 0, 0]) (l := bts n 4) (k := 4) rfl rfl]
  have e1 : ([0, 0, 0, 0] ++ (bts n 4 ++ ([0, 0, 0, 0] ++ (R ++ List.replicate (500 - b.length) 0)))).set 8 k = [0, 0, 0, 0, Cr.byt n 0, Cr.byt n 1, Cr.byt n 2, Cr.byt n 3, k, 0] ++ ([0, 0] ++ (R ++ List.replicate (500 - b.length) 0)) := rfl
  rw [e1, pu_mid (a := [0, 0, 0, 0, Cr.byt n 0, Cr.byt n 1, Cr.byt n 2, Cr.byt n 3, k, 0]) (b := [0, 0]) (l := bts b.length 2) (k := 10) rfl rfl, ← List.append_assoc, pu_mid (k := 12) (by rfl) hRl]
  simp [Pg.rest, Pg.head, bts, Cr.byt, List.range_succ]
set_option maxHeartbeats 2000000 in
set_option maxRecDepth 100000 in
theorem punsummed_any (n k : Nat) (v : Value) (b : List Nat) (B : Nat) (w : World) (hn : n < 65536) (hk : k < 256) (hv : Lv yK w B v b) (hB : B ≤ w.heap.size) (hb : b.length ≤ 496) :
    Calls Try.prog 29 #[.int .i64 (n : Nat), .int .u8 (k : Nat), v] w (fun e w' => e = .returned (.agg (bvs ([0, 0, 0, 0] ++ Pg.rest n k b))) ∧ Below w.heap.size w w') := by
  have hz := zero512V
  have hb8 : ∀ x ∈ b, x < 256 := fun x hx => hv.ok_ x hx
  have HNS := Lib.hid none512_size
  obtain ⟨Z, hZ⟩ : ∃ Z, none512 = Z := ⟨_, rfl⟩
  rw [hZ] at hz HNS
  obtain ⟨W, hW⟩ : ∃ W, (w.alloc (.cells Z 50)).alloc (.cells Z 50) = W := ⟨_, rfl⟩
  have HZ0 : Hid (Rw W w.heap.size 50 Z) := by unfold Hid; rw [← hW]; exact (Rw.new w _ _).old _
  have hz1 : Rw W (w.heap.size + 1) 50 (bvs (List.replicate 512 0)) := by rw [← hW]; show Rw _ _ _ none512; rw [hZ]; exact Rw.at_ (by simp) _ _
  have HBW : Hid (Below w.heap.size w W) := by unfold Hid; rw [← hW]; exact ((Below.refl _ _).alloc (Nat.le_refl _) _).alloc (by simp) _
  have HZ1 := Lib.hid hz1
  have HV := Lib.hid (hv.below_ HBW.out hB)
  have HK := Lib.hid hk
  have H8 := Lib.hid hb8
  have hn4 : n < 4294967296 := by omega
  obtain ⟨Z5, hZ5⟩ : ∃ Z, List.replicate 512 0 = Z := ⟨_, rfl⟩
  have hzl : Z5.length = 512 := by rw [← hZ5]; exact List.length_replicate
  have hz8 : ∀ x ∈ Z5, x < 256 := fun x hx => by rw [← hZ5] at hx; rw [List.eq_of_mem_replicate hx]; omega
  rw [hZ5] at hz1
  have HC1 := Lib.hid (play_any (w.heap.size + 1) 4 4 508 n _ Z5 W hn4 hz1 hz8 (by omega) (by omega))
  obtain ⟨A, c, rfl, h1, h2, -⟩ := hv
  have hFl : ([0, 0, 0, 0] ++ Pg.rest n k b).length = 512 := by rw [List.length_append, Pg.rest_len hb]; rfl
  obtain ⟨F, hF⟩ : ∃ F, bvs ([0, 0, 0, 0] ++ Pg.rest n k b) = F := ⟨_, rfl⟩
  have HFS : Hid ((Try.prog.info? 50).map (·.size) = some F.size) := by unfold Hid; rw [← hF]; exact size512l hFl
  have HFO : Hid (F.all (·.oneCell') = true) := by unfold Hid; rw [← hF]; exact bvs_one _
  have HFZ : Hid (Z.size = F.size) := by unfold Hid; rw [HNS.out, ← hF, bvs_size, hFl]
  have HF := Lib.hid hF
  rw [hF]
  clear hz1 hk hb8 hZ h1 h2 hF hFl
  go_enter Try.func29, Try.ntmps29
  go_wp2_with (fail)
  refine HC1.out.mono ?_
  rintro e w1 ⟨⟨y, rfl⟩, hr1, hg1⟩
  obtain ⟨P1, hP1⟩ : ∃ P, pu Z5 4 (bts n 4) = P := ⟨_, rfl⟩
  have hl1 : P1.length = 512 := by rw [← hP1, pu_len (by rw [bts_len]; omega), hzl]
  have h81 : ∀ x ∈ P1, x < 256 := by rw [← hP1]; exact pu_lt hz8 (bts_lt _ _)
  rw [hP1] at hr1
  have hZ1 : Rw w1 w.heap.size 50 Z := (hg1.block _ HZ0.out.lt (by intro e; injection e with e; omega)).trans HZ0.out
  have hB1 : Below w.heap.size w w1 := HBW.out.grown hg1 HBW.out.size (fun k hk => by injection hk with hk; omega)
  obtain ⟨x8, hx8⟩ : ∃ x, P1[8]? = some x := ⟨_, List.getElem?_eq_getElem (by omega)⟩
  have hc8 := hr1.byte hx8
  have hf8 := hr1.frozen 8
  obtain ⟨w2, hw2⟩ : ∃ w', w1.setCell ⟨w.heap.size + 1, 8, none⟩ (.int .u8 (k : Nat)) = w' := ⟨_, rfl⟩
  have hr2 := hr1.setByte 8 k
  have hZ2 : Rw w2 w.heap.size 50 Z := by rw [← hw2]; exact hZ1.setOther (by omega) _ _
  have hB2 : Below w.heap.size w w2 := by rw [← hw2]; exact hB1.setCell (p := ⟨w.heap.size + 1, 8, none⟩) (by show w.heap.size ≤ w.heap.size + 1; omega) _
  obtain ⟨P2, hP2⟩ : ∃ P, P1.set 8 k = P := ⟨_, rfl⟩
  have hl2 : P2.length = 512 := by rw [← hP2, List.length_set, hl1]
  have h82 : ∀ x ∈ P2, x < 256 := fun x hx => by
    rw [← hP2] at hx
    rcases List.mem_or_eq_of_mem_set hx with h | rfl
    · exact h81 x h
    · exact HK.out
  rw [hP2, hw2] at hr2
  have HC2 := Lib.hid (play_any (w.heap.size + 1) 10 2 502 b.length _ P2 w2 (by omega) hr2 h82 (by omega) (by omega))
  obtain ⟨P3, hP3⟩ : ∃ P, pu P2 10 (bts b.length 2) = P := ⟨_, rfl⟩
  have hl3 : P3.length = 512 := by rw [← hP3, pu_len (by rw [bts_len]; omega), hl2]
  have HL3 := Lib.hid hl3
  have HE : Hid (bvs (pu P3 12 b) = F) := by
    unfold Hid; rw [← hP3, ← hP2, ← hP1, ← hZ5, unsummed_list n k b hb]; exact HF.out
  rw [hP3] at HC2
  have HZ2 := Lib.hid hZ2
  have HB2 := Lib.hid hB2
  have hg12 : w1.grownBy w2 (some (w.heap.size + 1)) := by rw [← hw2]; exact ⟨rfl, rfl, rfl, by simp [World.setCell], fun k _ hk => Below.heap_setCell _ _ _ k (fun e => hk (by rw [e]))⟩
  have HV2 := Lib.hid ((HV.out.kept_ hg1 (by have := HBW.out.size; omega) (fun k hk => by injection hk with hk; omega)).kept_ hg12 (by have := hB1.size; omega) (fun k hk => by injection hk with hk; omega))
  clear hg12 HC1 hr1 hg1 hP1 hl1 h81 hZ1 hB1 hx8 hr2 hZ2 hB2 hP2 hl2 h82 hP3 hl3 hZ5 hzl hz8 hW HZ0 HBW HZ1 hz
  go_wp2_with (fail)
  refine HC2.out.mono ?_
  rintro e w3 ⟨⟨y2, rfl⟩, hr3, hg3⟩
  have hZ3 : Rw w3 w.heap.size 50 Z := (hg3.block _ HZ2.out.lt (by intro e; injection e with e; omega)).trans HZ2.out
  have hB3 : Below w.heap.size w w3 := HB2.out.grown hg3 HB2.out.size (fun k hk => by injection hk with hk; omega)
  have hv3 := HV2.out.kept_ hg3 (by have := HB2.out.size; omega) (fun k hk => by injection hk with hk; omega)
  obtain ⟨w4, hc, hr4, hg4⟩ := copy_arr (w := w3) (k := 12) (dl := 500) (dc := 500) hr3 (m := b) (B := B) hv3.bv_ (by have := HL3.out; omega) (by omega)
  rw [HE.out] at hr4
  have HZ4 : Hid (Rw w4 w.heap.size 50 Z) := (hg4.block _ hZ3.lt (by intro e; injection e with e; omega)).trans hZ3
  have HB4 : Hid (Below w.heap.size w w4) := hB3.grown hg4 hB3.size (fun k hk => by injection hk with hk; omega)
  have HR4 := Lib.hid hr4
  clear HC2 hr3 hg3 hZ3 hB3 hv3 hr4 hg4 HV2 HB2 HZ2 HE HV hw2
  go_wp2_with (first
    | (refine wpList_load_row rfl _ _ rfl (w.heap.size + 1) rfl 50 F (0, 0) _ HR4.out Try.underlying50 rfl HFS.out ?_)
    | (refine wpList_store_row rfl _ _ _ rfl w.heap.size F rfl rfl 50 _ HZ4.out HFS.out HFZ.out HFO.out ?_))
  refine bodyPost_ret (v := .agg F) (results_cell_row rfl _ _ w.heap.size 50 F (0, 0) _ rfl (Rw.row HZ4.out F) Try.underlying50 rfl HFS.out) rfl ⟨rfl, below_setRow HB4.out (by omega) _⟩
end Go.Proofs.Ytoefogmjekcbeaa
