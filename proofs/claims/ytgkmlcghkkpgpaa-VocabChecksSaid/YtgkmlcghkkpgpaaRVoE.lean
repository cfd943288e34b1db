/-
  stookref08.token, Byte, Find.
-/
import Derived.Test.YtgkmlcghkkpgpaaRVoDx
namespace Go.Proofs.Ytgkmlcghkkpgpaa
open Go.RowKit
set_option linter.unusedVariables false

namespace Vo
theorem good_app {l : List Pc} {x : Pc} (h : Good (l ++ [x])) : Good l ∧ errAt l x = 0 := by
  constructor
  · have := h.take l.length
    rwa [List.take_left] at this
  · have := h l.length x (by simp)
    rwa [List.take_left] at this
/-- The bytes that are there. -/
def theBytes (P : List Pc) : List Nat := (P.filter (fun q => !q.join)).map (fun q => q.byte)
theorem theBytes_mem {P : List Pc} {b : Nat} : b ∈ theBytes P ↔ ∃ q ∈ P, q.join = false ∧ q.byte = b := by
  simp [theBytes, and_assoc]
theorem theBytes_nodup {P : List Pc} (h : Good P) : (theBytes P).Nodup := by
  revert h
  refine snoc_ind (C := fun P => Good P → (theBytes P).Nodup) (by simp [theBytes]) (fun l x ih h => ?_) P
  obtain ⟨h1, h2⟩ := good_app h
  have hl := ih h1
  cases hj : x.join with
  | true => simpa [theBytes, hj] using hl
  | false =>
    have e : theBytes (l ++ [x]) = theBytes l ++ [x.byte] := by simp [theBytes, hj]
    rw [e, List.nodup_append]
    refine ⟨hl, by simp, ?_⟩
    intro a ha b hb
    simp at hb
    subst hb
    intro e2
    subst e2
    obtain ⟨_, _, _, h6⟩ := errAt_byte hj h2
    obtain ⟨q, hq, hqj, hqb⟩ := theBytes_mem.1 ha
    have : hasByte l x = true := by
      unfold hasByte
      rw [List.any_eq_true]
      exact ⟨q, hq, by simp [hqj, hqb]⟩
    rw [this] at h6
    cases h6
/-- Each byte is there. -/
theorem byte_there {P : List Pc} (h : May P) (hok : ∀ q ∈ P, q.byte < 256) {c : Nat} (hc : c < 256) : ∃ q ∈ P, q.join = false ∧ q.byte = c := by
  obtain ⟨_, hg, hm⟩ := may_iff.1 h
  rw [← theBytes_mem]
  by_cases hin : c ∈ theBytes P
  · exact hin
  · have := List.Nodup.length_le_of_subset (l₁ := c :: theBytes P) (l₂ := List.range 256) (List.nodup_cons.2 ⟨hin, theBytes_nodup hg⟩) (by
      intro y hy
      rcases List.mem_cons.1 hy with rfl | hy
      · exact List.mem_range.2 hc
      · obtain ⟨q, hq, _, rfl⟩ := theBytes_mem.1 hy
        exact List.mem_range.2 (hok q hq))
    rw [List.length_range, List.length_cons] at this
    have e : (theBytes P).length = bytesOf P := by simp [theBytes, bytesOf]
    omega
theorem tokenOf_lt {P : List Pc} (h : May P) (hok : ∀ q ∈ P, q.byte < 256) {c : Nat} (hc : c < 256) : tokenOf P c < P.length := by
  obtain ⟨q, hq, hj, hb⟩ := byte_there h hok hc
  exact List.findIdx_lt_length_of_exists ⟨q, hq, by simp [hj, hb]⟩
theorem first_not {P : List Pc} {f : Pc → Bool} {k : Nat} {q : Pc} (h : k < P.findIdx f) (hq : P[k]? = some q) : f q = false := by
  have hk : k < P.length := (List.getElem?_eq_some_iff.1 hq).1
  have h2 := List.not_of_lt_findIdx h
  rw [List.getElem?_eq_getElem hk] at hq
  rw [Option.some.inj hq] at h2
  simpa using h2
theorem first_is {P : List Pc} {f : Pc → Bool} {q : Pc} (hq : P[P.findIdx f]? = some q) : f q = true := by
  have hk : P.findIdx f < P.length := (List.getElem?_eq_some_iff.1 hq).1
  have h2 := List.findIdx_getElem (w := hk)
  rw [List.getElem?_eq_getElem hk] at hq
  rwa [Option.some.inj hq] at h2
theorem first_le {P : List Pc} {f : Pc → Bool} : P.findIdx f ≤ P.length := List.findIdx_le_length
/-- The first join of these two. -/
def joinOf (P : List Pc) (l r : Int) : Nat := P.findIdx (fun q => q.join && q.left == l && q.right == r)
def findE (P : List Pc) (l r : Int) : Nat × Bool := if joinOf P l r < P.length then (joinOf P l r, true) else (0, false)
end Vo

set_option maxHeartbeats 2000000 in
theorem rtoken_any (P : List Vo.Pc) (v : Value) (c : Nat) (B : Nat) (w : World) (hv : Lv pK w B v P) (hB : B ≤ w.heap.size) (hc : c < 256) (hm : Vo.May P) :
    Calls Try.prog 44 #[.agg #[v], .int .u8 (c : Nat)] w (fun e w' => e = .returned (.int .i64 (Vo.tokenOf P c : Nat)) ∧ Below w.heap.size w w') := by
  obtain ⟨W, hW⟩ : ∃ W, w.alloc (.cells #[v] 24) = W := ⟨_, rfl⟩
  obtain ⟨d0, hsz, hb⟩ := boxed hW
  have HB := Lib.hid hb
  have hvW := hv.below_ hb hB
  have HT := Lib.hid (Vo.tokenOf_lt hm (fun q hq => (hv.ok_ q hq).1) hc)
  obtain ⟨A, cc, rfl, h1, h2, _, _⟩ := hv
  have hl : P.length ≤ 9223372036854775807 := by simp only [maxLen] at h2; omega
  have HV := Lib.hid hvW
  obtain ⟨T, hT⟩ : ∃ T, Vo.tokenOf P c = T := ⟨_, rfl⟩
  have HN : Hid (∀ k q, k < T → P[k]? = some q → (!q.join && q.byte == c) = false) := fun k q hk hq => Vo.first_not (f := fun q => !q.join && q.byte == c) (by rw [← hT] at hk; exact hk) hq
  have HI : Hid (∀ q, P[T]? = some q → (!q.join && q.byte == c) = true) := fun q hq => Vo.first_is (f := fun q => !q.join && q.byte == c) (by rw [← hT] at hq; exact hq)
  rw [hT] at HT ⊢
  clear h1 h2 hb hsz hvW hm hT
  go_enter Try.func44, Try.ntmps44
  go_wp2
  go_loop [5] (fun s => ∃ k : Nat, k ≤ T ∧ s = .int .i64 k) (fun s => T - (intOf s).toNat)
  case atStart => exact ⟨0, by omega, rfl⟩
  case round =>
    obtain ⟨k, hk, rfl⟩ := hrel
    have hTl := HT.out
    obtain ⟨b, off, q, rfl, hbB, hqok, hq, q0, q1, q2, q3, q4⟩ := HV.out.piece_ (k := k) (by omega)
    have hki : (k : Int) < (P.length : Int) := by omega
    by_cases hlt : k < T
    · have hn := HN.out k q hlt hq
      have HK : Hid (k + 1 ≤ T) := hlt
      cases hj : q.join with
      | true =>
        rw [hj] at q0
        clear hn hq hqok hTl
        go_wp2
        go_round
        case rel => exact ⟨k + 1, HK.out, by go_num⟩
        case measure => simp [intOf]; omega
      | false =>
        rw [hj] at q0 hn
        have hne : ((q.byte : Int) != (c : Int)) = true := by
          rw [bne_iff_ne]
          simp at hn
          omega
        clear hn hq hqok hTl
        go_wp2
        go_round
        case rel => exact ⟨k + 1, HK.out, by go_num⟩
        case measure => simp [intOf]; omega
    · obtain rfl : k = T := by omega
      have hn := HI.out q hq
      simp at hn
      rw [hn.1] at q0
      have hne : ((q.byte : Int) != (c : Int)) = false := by rw [hn.2]; simp
      clear hn hq hqok hTl
      go_wp2
      go_ret
      exact ⟨rfl, HB.out⟩

set_option maxHeartbeats 1000000 in
theorem rbyte_any (P : List Vo.Pc) (v : Value) (c : Nat) (B : Nat) (w : World) (hv : Lv pK w B v P) (hB : B ≤ w.heap.size) (hc : c < 256) :
    Calls Try.prog 22 #[.agg #[v], .int .u8 (c : Nat)] w (IsCheck (Vo.byteE P c) w) := by
  obtain ⟨W, hW⟩ : ∃ W, w.alloc (.cells #[v] 24) = W := ⟨_, rfl⟩
  obtain ⟨d0, hsz, hb⟩ := boxed hW
  have HC := Lib.hid (rmay_voc P v B W (hv.below_ hb hB) (Nat.le_trans hB hb.size))
  have HB := Lib.hid hb
  have HV := Lib.hid hv
  have HSZ := Lib.hid hsz
  obtain ⟨A, cc, rfl, _, _, _, _⟩ := hv
  clear hsz hb
  by_cases hm : Vo.May P
  · rw [decide_eq_true hm] at HC
    have HX : Hid (Vo.byteE P c = (Vo.tokenOf P c, 0)) := by unfold Hid Vo.byteE; rw [if_pos hm]
    have HT : Hid (∀ w', Below w.heap.size w w' → Calls Try.prog 44 #[.agg #[.slice A P.length cc], .int .u8 (c : Nat)] w' (fun e w'' => e = .returned (.int .i64 (Vo.tokenOf P c : Nat)) ∧ Below w'.heap.size w' w'')) := fun w' hb => rtoken_any P _ c B w' (HV.out.below_ hb hB) (Nat.le_trans hB hb.size) hc hm
    clear hm
    go_enter Try.func22, Try.ntmps22
    go_wp2_with (fail)
    refine (HC.out).mono ?_
    rintro e w1 ⟨rfl, hb⟩
    have HB2 := Lib.hid (HB.out.trans (hb.mono HB.out.size))
    have d1 : w1.cell? ⟨w.heap.size, 0, none⟩ = some (.slice A P.length cc) := (hb.cell (p := ⟨w.heap.size, 0, none⟩) (by show w.heap.size < _; have := HSZ.out; omega)).trans d0
    have HT1 := Lib.hid (HT.out w1 HB2.out)
    clear hb HC HT
    go_wp2_with (fail)
    refine (HT1.out).mono ?_
    rintro e w2 ⟨rfl, hb⟩
    have HB3 := Lib.hid (HB2.out.trans (hb.mono HB2.out.size))
    clear hb HT1
    go_wp2
    go_ret2
    exact ⟨by rw [HX.out]; rfl, HB3.out⟩
  · rw [decide_eq_false hm] at HC
    have HX : Hid (Vo.byteE P c = (0, 11)) := by unfold Hid Vo.byteE; rw [if_neg hm]
    clear hm
    go_enter Try.func22, Try.ntmps22
    go_wp2_with (fail)
    refine (HC.out).mono ?_
    rintro e w1 ⟨rfl, hb⟩
    have HB2 := Lib.hid (HB.out.trans (hb.mono HB.out.size))
    clear hb HC
    go_wp2
    go_ret2
    exact ⟨by rw [HX.out]; rfl, HB2.out⟩

/-- A call that answers a number and a bool, and turns nothing that was there. -/
def IsFound (r : Nat × Bool) (w : World) (e : Ending) (w' : World) : Prop := e = .returned (.tuple #[.int .i64 (r.1 : Nat), .bool r.2]) ∧ Below w.heap.size w w'

set_option maxHeartbeats 2000000 in
theorem rfind_any (P : List Vo.Pc) (v : Value) (l r : Int) (B : Nat) (w : World) (hv : Lv pK w B v P) (hB : B ≤ w.heap.size) :
    Calls Try.prog 25 #[.agg #[v], .int .i64 l, .int .i64 r] w (IsFound (Vo.findE P l r) w) := by
  obtain ⟨W, hW⟩ : ∃ W, w.alloc (.cells #[v] 24) = W := ⟨_, rfl⟩
  obtain ⟨d0, hsz, hb⟩ := boxed hW
  have HB := Lib.hid hb
  have HV := Lib.hid hv
  obtain ⟨A, cc, rfl, h1, h2, _, _⟩ := hv
  have hl : P.length ≤ 9223372036854775807 := by simp only [maxLen] at h2; omega
  obtain ⟨T, hT⟩ : ∃ T, Vo.joinOf P l r = T := ⟨_, rfl⟩
  have HN : Hid (∀ k q, k < T → P[k]? = some q → (q.join && q.left == l && q.right == r) = false) := fun k q hk hq => Vo.first_not (f := fun q => q.join && q.left == l && q.right == r) (by rw [← hT] at hk; exact hk) hq
  have HI : Hid (∀ q, P[T]? = some q → (q.join && q.left == l && q.right == r) = true) := fun q hq => Vo.first_is (f := fun q => q.join && q.left == l && q.right == r) (by rw [← hT] at hq; exact hq)
  have HT : Hid (T ≤ P.length) := by rw [← hT]; exact Vo.first_le
  have HXT : Hid (T < P.length → Vo.findE P l r = (T, true)) := fun h => by rw [← hT] at h ⊢; unfold Vo.findE; rw [if_pos h]
  have HXN : Hid (¬ T < P.length → Vo.findE P l r = (0, false)) := fun h => by rw [← hT] at h; unfold Vo.findE; rw [if_neg h]
  have HSZ := Lib.hid hsz
  clear h1 h2 hb hsz hT
  go_enter Try.func25, Try.ntmps25
  go_wp2
  go_loopw [8] (fun s wr => ∃ k : Nat, k ≤ T ∧ s = .int .i64 k ∧ Below W.heap.size W wr) (fun s _ => T + 1 - (intOf s).toNat)
  case atStart => exact ⟨0, by omega, rfl, Below.refl _ _⟩
  case round =>
    obtain ⟨k, hk, rfl, hbr⟩ := hrel
    have hTl := HT.out
    have hsz := HSZ.out
    have HBw := Lib.hid (HB.out.trans (hbr.mono HB.out.size))
    have d1 : wr.cell? ⟨w.heap.size, 0, none⟩ = some (.slice A P.length cc) := (hbr.cell (p := ⟨w.heap.size, 0, none⟩) (by show w.heap.size < _; omega)).trans d0
    have HBr := Lib.hid hbr
    clear hbr d0
    by_cases hkl : k < P.length
    · obtain ⟨b, off, q, rfl, hbB, hqok, hq, q0, q1, q2, q3, q4⟩ := (HV.out.below_ HBw.out hB).piece_ hkl
      have hki : (k : Int) < (P.length : Int) := by omega
      obtain ⟨qj, qb, ql, qr, qk⟩ := q
      simp only at q0 q1 q2 q3 q4
      obtain ⟨W3, hW3⟩ : ∃ W3, wr.alloc (.cells #[.bool qj, .int .u8 (qb : Nat), .int .i64 ql, .int .i64 qr, .int .u32 (qk : Nat)] 33) = W3 := ⟨_, rfl⟩
      have HB3 : Hid (Below W.heap.size W W3) := by unfold Hid; rw [← hW3]; exact HBr.out.alloc HBr.out.size _
      have HBw3 : Hid (Below w.heap.size w W3) := by unfold Hid; rw [← hW3]; exact HBw.out.alloc HBw.out.size _
      have hcell : ∀ (j : Nat) (u : Value), #[.bool qj, .int .u8 (qb : Nat), .int .i64 ql, .int .i64 qr, .int .u32 (qk : Nat)][j]? = some u → W3.cell? ⟨wr.heap.size, j, none⟩ = some u := fun j u hj => by
        rw [← hW3, cell_of_row _ wr.heap.size j _ _ _ (heap_alloc_new wr _)]
        exact hj
      have k0 := hcell 0 _ rfl
      have k2 := hcell 2 _ rfl
      have k3 := hcell 3 _ rfl
      clear hcell
      by_cases hlt : k < T
      · have hn := HN.out k _ hlt hq
        have HK : Hid (k + 1 ≤ T) := hlt
        simp only at hn
        cases qj with
        | false =>
          clear hn hq hqok hTl hsz
          go_wp2
          go_roundw
          case rel => exact ⟨k + 1, HK.out, by go_num, HB3.out⟩
          case measure => simp [intOf]; omega
        | true =>
          by_cases e1 : ql = l
          · subst e1
            have e2 : (qr == r) = false := by simpa using hn
            clear hn hq hqok hTl hsz
            go_wp2
            go_roundw
            case rel => exact ⟨k + 1, HK.out, by go_num, HB3.out⟩
            case measure => simp [intOf]; omega
          · have e2 : (ql == l) = false := by rw [beq_eq_false_iff_ne]; exact e1
            clear hn hq hqok hTl hsz e1
            go_wp2
            go_roundw
            case rel => exact ⟨k + 1, HK.out, by go_num, HB3.out⟩
            case measure => simp [intOf]; omega
      · obtain rfl : k = T := by omega
        have hn := HI.out _ hq
        simp at hn
        obtain ⟨⟨rfl, rfl⟩, rfl⟩ := hn
        have HX := Lib.hid (HXT.out hkl)
        clear hq hqok hTl hsz
        go_wp2
        go_ret2
        exact ⟨by rw [HX.out]; rfl, HBw3.out⟩
    · have HX := Lib.hid (HXN.out (by omega))
      have hki : ¬ (k : Int) < (P.length : Int) := by omega
      clear hTl hsz
      go_wp2
      go_ret2
      exact ⟨by rw [HX.out]; rfl, HBw.out⟩
end Go.Proofs.Ytgkmlcghkkpgpaa
