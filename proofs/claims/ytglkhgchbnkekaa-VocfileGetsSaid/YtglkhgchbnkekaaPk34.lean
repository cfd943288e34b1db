/-
  VoMathC: Plain mathematics of chapter 8: the bytes that are there; what is found first.
  VpCheck: vocab.Check, mayBe.
  VqVoc: vocfile's reading of the program: vocabulary.
-/
import Derived.Test.YtglkhgchbnkekaaPk09
import Derived.Test.YtglkhgchbnkekaaPk33
import Derived.Test.YtglkhgchbnkekaaPk30
import Derived.Test.YtglkhgchbnkekaaPk20
namespace Go.Proofs.Ytglkhgchbnkekaa
set_option linter.unusedVariables false

namespace Vo
def expandE (P : List Pc) (t : Int) : List Nat × Nat := if May P then (if t < 0 ∨ (P.length : Int) ≤ t then ([], 2) else (text P t.toNat, 0)) else ([], 11)
/-- The first token that is this byte. -/
def tokenOf (P : List Pc) (c : Nat) : Nat := P.findIdx (fun q => !q.join && q.byte == c)
def byteE (P : List Pc) (c : Nat) : Nat × Nat := if May P then (tokenOf P c, 0) else (0, 11)
end Vo
namespace Vo
theorem good_app {l : List Pc} {x : Pc} (h : Good (l ++ [x])) : Good l ∧ errAt l x = 0 := by
  constructor
  · have := h.take l.length
    rwa [List.take_left] at this
  · have := h l.length x (by simp)
    rwa [List.take_left] at this
/-- The bytes that are there. -/
def theBytes (P : List Pc) : List Nat := (P.filter (fun q => !q.join)).map (fun q => q.byte)
theorem theBytes_mem {P : List Pc} {b : Nat} : b ∈ theBytes P ↔ ∃ q ∈ P, q.join = false ∧ q.byte = b := by
  simp [theBytes, and_assoc]
theorem theBytes_nodup {P : List Pc} (h : Good P) : (theBytes P).Nodup := by
  revert h
  refine snoc_ind (C := fun P => Good P → (theBytes P).Nodup) (by simp [theBytes]) (fun l x ih h => ?_) P
  obtain ⟨h1, h2⟩ := good_app h
  have hl := ih h1
  cases hj : x.join with
  | true => simpa [theBytes, hj] using hl
  | false =>
    have e : theBytes (l ++ [x]) = theBytes l ++ [x.byte] := by simp [theBytes, hj]
    rw [e, List.nodup_append]
    refine ⟨hl, by simp, ?_⟩
    intro a ha b hb
    simp at hb
    subst hb
    intro e2
    subst e2
    obtain ⟨_, _, _, h6⟩ := errAt_byte hj h2
    obtain ⟨q, hq, hqj, hqb⟩ := theBytes_mem.1 ha
    have : hasByte l x = true := by
      unfold hasByte
      rw [List.any_eq_true]
      exact ⟨q, hq, by simp [hqj, hqb]⟩
    rw [this] at h6
    cases h6
/-- Each byte is there. -/
theorem byte_there {P : List Pc} (h : May P) (hok : ∀ q ∈ P, q.byte < 256) {c : Nat} (hc : c < 256) : ∃ q ∈ P, q.join = false ∧ q.byte = c := by
  obtain ⟨_, hg, hm⟩ := may_iff.1 h
  rw [← theBytes_mem]
  by_cases hin : c ∈ theBytes P
  · exact hin
  · have := List.Nodup.length_le_of_subset (l₁ := c :: theBytes P) (l₂ := List.range 256) (List.nodup_cons.2 ⟨hin, theBytes_nodup hg⟩) (by
      intro y hy
      rcases List.mem_cons.1 hy with rfl | hy
      · exact List.mem_range.2 hc
      · obtain ⟨q, hq, _, rfl⟩ := theBytes_mem.1 hy
        exact List.mem_range.2 (hok q hq))
    rw [List.length_range, List.length_cons] at this
    have e : (theBytes P).length = bytesOf P := by simp [theBytes, bytesOf]
    omega
theorem tokenOf_lt {P : List Pc} (h : May P) (hok : ∀ q ∈ P, q.byte < 256) {c : Nat} (hc : c < 256) : tokenOf P c < P.length := by
  obtain ⟨q, hq, hj, hb⟩ := byte_there h hok hc
  exact List.findIdx_lt_length_of_exists ⟨q, hq, by simp [hj, hb]⟩
theorem first_not {P : List Pc} {f : Pc → Bool} {k : Nat} {q : Pc} (h : k < P.findIdx f) (hq : P[k]? = some q) : f q = false := by
  have hk : k < P.length := (List.getElem?_eq_some_iff.1 hq).1
  have h2 := List.not_of_lt_findIdx h
  rw [List.getElem?_eq_getElem hk] at hq
  rw [Option.some.inj hq] at h2
  simpa using h2
theorem first_is {P : List Pc} {f : Pc → Bool} {q : Pc} (hq : P[P.findIdx f]? = some q) : f q = true := by
  have hk : P.findIdx f < P.length := (List.getElem?_eq_some_iff.1 hq).1
  have h2 := List.findIdx_getElem (w := hk)
  rw [List.getElem?_eq_getElem hk] at hq
  rwa [Option.some.inj hq] at h2
theorem first_le {P : List Pc} {f : Pc → Bool} : P.findIdx f ≤ P.length := List.findIdx_le_length
/-- The first join of these two. -/
def joinOf (P : List Pc) (l r : Int) : Nat := P.findIdx (fun q => q.join && q.left == l && q.right == r)
def findE (P : List Pc) (l r : Int) : Nat × Bool := if joinOf P l r < P.length then (joinOf P l r, true) else (0, false)
end Vo
end Go.Proofs.Ytglkhgchbnkekaa
namespace Go.Proofs.Ytglkhgchbnkekaa
open Go.RowKit
set_option linter.unusedVariables false

namespace Vo
theorem bits_all {P : List Pc} (hg : Good P) (hok : ∀ q ∈ P, q.byte < 256) : (bits P).contains false = decide (bytesOf P < 256) := by
  have hlen : (theBytes P).length = bytesOf P := by simp [theBytes, bytesOf]
  rw [Bool.eq_iff_iff, decide_eq_true_eq, List.elem_iff]
  constructor
  · intro h
    obtain ⟨b, hb⟩ := List.getElem?_of_mem h
    have hb2 : b < 256 := by have := (List.getElem?_eq_some_iff.1 hb).1; rwa [bits_len] at this
    rw [bits_at hb2] at hb
    have hno : b ∉ theBytes P := fun hm => by
      obtain ⟨q, hq, hj, e⟩ := theBytes_mem.1 hm
      have : P.any (fun q => !q.join && q.byte == b) = true := List.any_eq_true.2 ⟨q, hq, by simp [hj, e]⟩
      rw [this] at hb
      cases hb
    have := List.Nodup.length_le_of_subset (l₁ := b :: theBytes P) (l₂ := List.range 256) (List.nodup_cons.2 ⟨hno, theBytes_nodup hg⟩) (by
      intro y hy
      rcases List.mem_cons.1 hy with rfl | hy
      · exact List.mem_range.2 hb2
      · obtain ⟨q, hq, _, rfl⟩ := theBytes_mem.1 hy
        exact List.mem_range.2 (hok q hq))
    rw [List.length_range, List.length_cons] at this
    omega
  · intro h
    apply Decidable.byContradiction
    intro hno
    have := List.Nodup.length_le_of_subset (l₁ := List.range 256) (l₂ := theBytes P) List.nodup_range (by
      intro b hb
      have hb2 := List.mem_range.1 hb
      have hx := bits_at (D := P) hb2
      cases hany : P.any (fun q => !q.join && q.byte == b) with
      | false => rw [hany] at hx; exact absurd (List.mem_of_getElem? hx) hno
      | true =>
        obtain ⟨q, hq, hs⟩ := List.any_eq_true.1 hany
        simp at hs
        exact theBytes_mem.2 ⟨q, hq, by simpa using hs.1, hs.2⟩)
    rw [List.length_range] at this
    omega
end Vo

set_option maxRecDepth 100000 in
set_option maxHeartbeats 4000000 in
theorem pcheck_any (P : List Vo.Pc) (v : Value) (B : Nat) (w : World) (hv : Lv pK w B v P) (hB : B ≤ w.heap.size) :
    Calls Try.prog 22 #[.agg #[v]] w (IsCheck (Vo.check P) w) := by
  have hv0 := hv
  obtain ⟨A, c, rfl, h1, h2, _, _⟩ := hv
  have hl : P.length ≤ 9223372036854775807 := by simp only [maxLen] at h2; omega
  clear h1 h2
  obtain ⟨W, hW⟩ : ∃ W, w.alloc (.cells #[.slice A P.length c] 24) = W := ⟨_, rfl⟩
  obtain ⟨d0, hsz, hb⟩ := boxed hW
  have HB0 := Lib.hid hb
  by_cases hbig : 4096 < P.length
  · have HX : Hid (Vo.check P = (3, 0)) := by unfold Hid Vo.check; rw [if_pos hbig]
    clear hsz hb hv0
    go_enter Try.func22, Try.ntmps22
    go_wp2
    go_ret2
    exact ⟨by rw [HX.out]; rfl, HB0.out⟩
  · have HBig := Lib.hid hbig
    have hle : P.length ≤ 4096 := by omega
    have HN := Lib.hid (pnewSeen_any W P.length hle)
    have HV0 := Lib.hid hv0
    have hpb : w.heap.size < W.heap.size := by omega
    clear hbig hb hv0
    go_enter Try.func22, Try.ntmps22
    go_wp2_with (fail)
    refine HN.out.mono ?_
    rintro e w1 ⟨sb, rfl, hS1, hb1⟩
    have HS1 := Lib.hid hS1
    have HB1 := Lib.hid (HB0.out.trans (hb1.mono HB0.out.size))
    have d1 : w1.cell? ⟨w.heap.size, 0, none⟩ = some (.slice A P.length c) := (hb1.cell (p := ⟨w.heap.size, 0, none⟩) hpb).trans d0
    have HZ1 : Hid (W.heap.size ≤ w1.heap.size) := hb1.size
    clear hS1 hb1 HN d0
    go_wp2
    go_loopw [5, 6, 7, 19] (fun _ _ _ i wr => ∃ k : Nat, k ≤ P.length ∧ i = .int .i64 k ∧ Hid (Vo.Good (P.take k)) ∧ Hid (Vo.scan [] P = Vo.scan (P.take k) (P.drop k)) ∧ Hid (SeenD wr sb W.heap.size (P.take k)) ∧ Below W.heap.size w1 wr) (fun _ _ _ i _ => P.length - (intOf i).toNat)
    case atStart => exact ⟨0, by omega, rfl, by intro i p h; simp at h, rfl, HS1.out, Below.refl _ _⟩
    case round =>
      obtain ⟨k, hk, rfl, HG, HSc, HS, hbr⟩ := hrel
      have HBr := Lib.hid hbr
      have HBw := Lib.hid (HB1.out.trans (hbr.mono HB0.out.size))
      have hdr : wr.cell? ⟨w.heap.size, 0, none⟩ = some (.slice A P.length c) := (hbr.cell (p := ⟨w.heap.size, 0, none⟩) hpb).trans d1
      have hsr : W.heap.size ≤ wr.heap.size := Nat.le_trans HZ1.out hbr.size
      have HVr := Lib.hid (HV0.out.below_ HBw.out hB)
      clear HS1 hbr d1
      by_cases hlt : k < P.length
      · obtain ⟨b, off, p, rfl, hbB, hpok, hq, c0, c1, c2, c3, c4⟩ := HVr.out.piece_ hlt
        have hki : (k : Int) < (P.length : Int) := by omega
        obtain ⟨wp, hwp⟩ : ∃ wp, wr.alloc (.cells #[.bool p.join, .int .u8 (p.byte : Nat), .int .i64 p.left, .int .i64 p.right, .int .u32 (p.rank : Nat)] 45) = wp := ⟨_, rfl⟩
        obtain ⟨⟨_, hx⟩, hbx⟩ := pboxed hwp
        have x0 := hx 0 _ rfl
        have x1 := hx 1 _ rfl
        have x2 := hx 2 _ rfl
        have x3 := hx 3 _ rfl
        have x4 := hx 4 _ rfl
        have HBp := Lib.hid (HBr.out.trans (hbx.mono hsr))
        have HBwp := Lib.hid (HBw.out.trans (hbx.mono (Nat.le_trans HB0.out.size hsr)))
        have HC := Lib.hid (padd_any (HS.out.to_ hbx) p hpok (by rw [List.length_take]; omega) HG.out (Nat.le_trans hsr hbx.size))
        unfold pcV at HC
        clear hx hbx
        by_cases he : Vo.errAt (P.take k) p = 0
        · have HG2 := Lib.hid (Vo.good_snoc HG.out hq he)
          have HSc2 : Hid (Vo.scan [] P = Vo.scan (P.take (k + 1)) (P.drop (k + 1))) := by unfold Hid; rw [HSc.out, Vo.scan_step hq, if_pos he]
          have HQ := Lib.hid (take_snoc hq)
          have HE := Lib.hid he
          clear he hq HG HSc
          go_wp2_with (fail)
          refine (HC.out).mono ?_
          rintro e w2 ⟨he, hs, hb⟩
          rw [HE.out] at he
          obtain rfl := he
          have HS2 : Hid (SeenD w2 sb W.heap.size (P.take (k + 1))) := by unfold Hid; rw [HQ.out]; exact hs HE.out
          have HB2 := Lib.hid (HBp.out.trans hb)
          clear hs hb HC
          go_wp2
          go_roundw
          case rel => exact ⟨k + 1, hlt, by go_num, HG2.out, HSc2.out, HS2.out, HB2.out⟩
          case measure => simp [intOf]; omega
        · obtain ⟨E, hE⟩ : ∃ E, Vo.errAt (P.take k) p = E := ⟨_, rfl⟩
          have HX : Hid (Vo.check P = (E, k)) := Vo.check_scan HBig.out (by rw [HSc.out, Vo.scan_step hq, if_neg he, hE]) (by rw [← hE]; exact he)
          have HE := Lib.hid hE
          rw [hE] at he
          have heb : ((E : Int) != 0) = true := by rw [bne_iff_ne]; omega
          clear he hE hq HG HSc
          go_wp2_with (fail)
          refine (HC.out).mono ?_
          rintro e w2 ⟨he, _, hb⟩
          rw [HE.out] at he
          obtain rfl := he
          have HB2 := Lib.hid (HBwp.out.trans (hb.mono HB0.out.size))
          clear hb HC
          go_wp2
          go_ret2
          exact ⟨by rw [HX.out]; rfl, HB2.out⟩
      · obtain rfl : k = P.length := by omega
        have hG := HG.out
        rw [List.take_length] at hG
        have HX := Lib.hid (Vo.check_good HBig.out hG)
        have hS := HS.out
        rw [List.take_length] at hS
        have hA := pallBytes_any hS
        rw [Vo.bits_all hG (fun q hq => (HVr.out.ok_ q hq).1)] at hA
        clear hG hS
        by_cases hmany : Vo.bytesOf P < 256
        · rw [if_pos hmany] at HX
          rw [decide_eq_true hmany] at hA
          have HA := Lib.hid hA
          clear hmany hA
          go_wp2_with (fail)
          refine HA.out.mono ?_
          rintro e w' ⟨rfl, rfl⟩
          clear HA
          go_wp2
          go_quiet (fail)
          go_wp2
          go_ret2
          exact ⟨by rw [HX.out]; rfl, below_drewN HBw.out _⟩
        · rw [if_neg hmany] at HX
          rw [decide_eq_false hmany] at hA
          have HA := Lib.hid hA
          clear hmany hA
          go_wp2_with (fail)
          refine HA.out.mono ?_
          rintro e w' ⟨rfl, rfl⟩
          clear HA
          go_wp2
          go_ret2
          exact ⟨by rw [HX.out]; rfl, HBw.out⟩
end Go.Proofs.Ytglkhgchbnkekaa
namespace Go.Proofs.Ytglkhgchbnkekaa
open Go.RowKit
set_option linter.unusedVariables false

namespace Vo
theorem scan_ix (R : List Pc) : ∀ D : List Pc, (scan D R).2 ≤ D.length + R.length := by
  induction R with
  | nil => intro D; simp [scan]
  | cons p r ih =>
    intro D
    rw [scan]
    split
    · have := ih (D ++ [p])
      simp only [List.length_append, List.length_cons, List.length_nil] at this ⊢
      omega
    · simp
theorem check_ix (P : List Pc) : (check P).2 ≤ P.length := by
  unfold check
  have := scan_ix P []
  simp only [List.length_nil, Nat.zero_add] at this
  split
  · exact Nat.zero_le _
  · split
    · exact this
    · split
      · exact Nat.le_refl _
      · exact Nat.zero_le _
end Vo
theorem results_v1 {fn : Func} {p : Tmp} (h : fn.results = #[.cell p 24]) (tmps : Array Value) (w : World) (g : Nat) (u : Value) (t : TypeId)
    (hp : tmps.getD p undef = .pointer (some ⟨g, 0, none⟩)) (hg : w.heap[g]? = some (.cells #[u] t (0, 0))) :
    (results fn tmps).run Try.prog w = .ok (.agg #[u]) w := by
  have hp' : tmps[p]?.getD undef = .pointer (some ⟨g, 0, none⟩) := by simpa using hp
  simp [results, h, hp', asAddr, run_loadVar_row w g t _ _ (0, 0) _ hg Try.underlying24 rfl (by kernel_rfl)]

set_option maxHeartbeats 4000000 in
set_option maxRecDepth 100000 in
theorem pvvoc_any (g : Nat) (v p q : Value) (a : Nat) (P : List Vo.Pc) (D : List Int) (w : World) (h : Rdp w g v p q a) (hP : Lv pK w w.heap.size p P) (hQ : Lv iK w w.heap.size q D) (ec ic x : Nat) (hck : Vo.check P = (ec, ic)) (hx : ec ≠ 0 → D[ic]? = some (x : Int)) :
    Calls Try.prog 56 #[.pointer (some ⟨g, 0, none⟩)] w (fun e w' => e = (if ec = 0 then .returned (.agg #[p]) else Fault 11 x) ∧ Below w.heap.size w w') := by
  obtain ⟨Ap, cp, hpe, -, -, -, -, -⟩ := id hP
  subst hpe
  obtain ⟨z, hz⟩ : ∃ z, w.heap.size = z := ⟨_, rfl⟩
  obtain ⟨W1, hW1⟩ : ∃ W, w.alloc (.cells #[.slice none 0 0] 24) = W := ⟨_, rfl⟩
  have hb1 : Below w.heap.size w W1 := by rw [← hW1]; exact (Below.refl _ w).alloc (Nat.le_refl _) _
  have x1 : W1.heap[z]? = some (.cells #[.slice none 0 0] 24 (0, 0)) := by rw [← hW1, ← hz]; exact heap_alloc_new w _
  have s1 : W1.heap.size = z + 1 := by rw [← hW1, ← hz]; simp
  have r1 : Rdp W1 g v (.slice Ap P.length cp) q a := h.below_ hb1 h.lt_
  have c2 := r1.ps
  obtain ⟨W2, hW2⟩ : ∃ W, W1.alloc (.cells #[.slice none 0 0] 24) = W := ⟨_, rfl⟩
  have hb2 : Below w.heap.size w W2 := by rw [← hW2]; exact hb1.alloc hb1.size _
  have y2 : W2.heap[z + 1]? = some (.cells #[.slice none 0 0] 24 (0, 0)) := by rw [← hW2, ← s1]; exact heap_alloc_new W1 _
  have x2 : W2.heap[z]? = some (.cells #[.slice none 0 0] 24 (0, 0)) := by rw [← hW2, heap_alloc_old W1 _ (by omega)]; exact x1
  have fy : W2.frozen? ⟨z + 1, 0, none⟩ = false := frozen_of_row W2 _ 0 _ _ y2
  have cy0 : W2.cell? ⟨z + 1, 0, none⟩ = some (.slice none 0 0) := by rw [cell_of_row _ _ 0 _ _ _ y2]; rfl
  obtain ⟨W3, hW3⟩ : ∃ W, W2.setCell ⟨z + 1, 0, none⟩ (.slice Ap P.length cp) = W := ⟨_, rfl⟩
  have hb3 : Below w.heap.size w W3 := by rw [← hW3]; exact hb2.setCell (p := ⟨z + 1, 0, none⟩) (by show _ ≤ z + 1; omega) _
  have y3 : W3.heap[z + 1]? = some (.cells #[.slice Ap P.length cp] 24 (0, 0)) := by rw [← hW3, heap_setCell_same W2 (z + 1) 0 _ _ _ y2]; rfl
  have x3 : W3.heap[z]? = some (.cells #[.slice none 0 0] 24 (0, 0)) := by rw [← hW3, heap_setCell_other W2 ⟨z + 1, 0, none⟩ z _ (by show z ≠ z + 1; omega)]; exact x2
  have cy : W3.cell? ⟨z + 1, 0, none⟩ = some (.slice Ap P.length cp) := by rw [cell_of_row _ _ 0 _ _ _ y3]; rfl
  have r3 : Rdp W3 g v (.slice Ap P.length cp) q a := h.below_ hb3 h.lt_
  have HC := Lib.hid (pcheck_any P _ w.heap.size W3 (hP.below_ hb3 (Nat.le_refl _)) hb3.size)
  rw [hck] at HC
  have HX := Lib.hid x3
  have HY := Lib.hid y3
  have HB3 := Lib.hid hb3
  have HR3 := Lib.hid r3
  have HQ := Lib.hid hQ
  have HXX := Lib.hid hx
  have HGL := Lib.hid h.lt_
  have HZ := Lib.hid hz
  clear h hP hQ hck hx hb1 hb2 hb3 x1 x2 x3 y2 y3 r1 r3
  go_enter Try.func56, Try.ntmps56
  go_wp2_with (fail)
  refine (HC.out).mono ?_
  rintro e w4 ⟨rfl, hb4⟩
  have hs3 := (Array.getElem?_eq_some_iff.1 HY.out).1
  have HB4 := Lib.hid (HB3.out.trans (hb4.mono HB3.out.size))
  have y4 := (hb4.block (z + 1) hs3).trans HY.out
  have cy4 : w4.cell? ⟨z + 1, 0, none⟩ = some (.slice Ap P.length cp) := by rw [cell_of_row _ _ 0 _ _ _ y4]; rfl
  have x4 := (hb4.block z (by omega)).trans HX.out
  have cx4 : w4.cell? ⟨z, 0, none⟩ = some (.slice none 0 0) := by rw [cell_of_row _ _ 0 _ _ _ x4]; rfl
  have fx4 : w4.frozen? ⟨z, 0, none⟩ = false := frozen_of_row w4 _ 0 _ _ x4
  have r4 : Rdp w4 g v (.slice Ap P.length cp) q a := HR3.out.below_ hb4 (by have := HGL.out; have := HB3.out.size; omega)
  by_cases hec : ec = 0
  · subst hec
    simp only [Int.natCast_zero]
    have HZF : Hid ((w4.setCell ⟨z, 0, none⟩ (.slice Ap P.length cp)).heap[z]? = some (.cells #[.slice Ap P.length cp] 24 (0, 0))) := by unfold Hid; rw [heap_setCell_same w4 z 0 _ _ _ x4]; rfl
    have HBF : Hid (Below w.heap.size w (w4.setCell ⟨z, 0, none⟩ (.slice Ap P.length cp))) := HB4.out.setCell (p := ⟨z, 0, none⟩) (by show _ ≤ z; have := HZ.out; omega) _
    clear HB4 HC hb4 y4 x4 r4
    go_wp2
    refine bodyPost_ret (results_v1 rfl _ _ z _ _ rfl HZF.out) rfl ?_
    exact ⟨rfl, by have h := HBF.out; rw [HZ.out] at h; exact h⟩
  · have g6 : ¬ ((ec : Int) = 0) := by omega
    have hdx := HXX.out hec
    have hil : ic < D.length := (List.getElem?_eq_some_iff.1 hdx).1
    have c3 := r4.qs
    obtain ⟨A, c, rfl, k1, k2, -, -, -⟩ := id HQ.out
    obtain ⟨b, o, y, rfl, hbb, hy, hd, hcell⟩ := (HQ.out.below_ HB4.out (Nat.le_refl _)).int_ hil
    have hxy : y = (x : Int) := by rw [hdx] at hd; exact (Option.some.inj hd).symm
    subst hxy
    have g7 : (ic : Int) < (D.length : Int) := by omega
    have g8 : (0 : Int) ≤ (ic : Int) := by omega
    have HNE : Hid (ec ≠ 0) := hec
    clear HC hb4 y4 x4 r4 hd hdx hil hbb hy cy4 cx4 fx4 hec k1 k2
    go_wp2
    refine bodyPost_panic rfl ?_
    exact ⟨rfl, by have h := HB4.out; rw [HZ.out] at h; exact h⟩
end Go.Proofs.Ytglkhgchbnkekaa
