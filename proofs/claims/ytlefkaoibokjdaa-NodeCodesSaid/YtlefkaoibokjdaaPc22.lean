/-
  NodC: node: Wide, May, isWideLeaf, Find, Kid, separates.
  NodM: Chapter 18's bytes of a node: mathematics.
  NodD: A text as bytes: what the conversion makes.
-/
import Derived.Test.YtlefkaoibokjdaaPc21
import Derived.Test.YtlefkaoibokjdaaPc11
import Derived.Test.YtlefkaoibokjdaaPc15
import Derived.Test.YtlefkaoibokjdaaPc01
import Derived.Lib.ConvBytes
namespace Go.Proofs.Ytlefkaoibokjdaa
open Go.RowKit
set_option linter.unusedVariables false
theorem Nd.right_two {n : Nd.Node} (hk : n.kind = 2) : Nd.Right n 13 13 ↔ Nd.Right n 12 13 := by
  unfold Nd.Right Nd.Shape
  rw [hk]
  constructor
  all_goals
    rintro ⟨h1, h2, h3, ⟨h, _⟩ | h⟩
    · cases h
    · exact ⟨h1, h2, h3, .inr h⟩
theorem Nd.right_one {n : Nd.Node} (hk : n.kind ≠ 2) : Nd.Right n 12 12 ↔ Nd.Right n 12 13 := by
  unfold Nd.Right Nd.Shape
  constructor
  all_goals
    rintro ⟨h1, h2, h3, h | ⟨h, _⟩⟩
    · exact ⟨h1, h2, h3, .inl h⟩
    · exact absurd h hk
theorem less_or (x : List UInt8) : ∀ y : List UInt8, (Op.bytesLess x y || x == y) = !Op.bytesLess y x := by
  induction x with
  | nil => intro y; cases y <;> rfl
  | cons a x ih =>
    intro y
    cases y with
    | nil => rfl
    | cons b y =>
      have h := ih y
      have e1 : Op.bytesLess (a :: x) (b :: y) = (decide (a < b) || (a == b && Op.bytesLess x y)) := rfl
      have e2 : Op.bytesLess (b :: y) (a :: x) = (decide (b < a) || (b == a && Op.bytesLess y x)) := rfl
      rw [e1, e2, List.cons_beq_cons]
      rcases Nat.lt_trichotomy a.toNat b.toNat with h1 | h1 | h1
      · have q1 : a < b := h1
        have q2 : ¬ b < a := fun h => by have h : b.toNat < a.toNat := h; omega
        have q3 : ¬ b = a := fun h => by rw [h] at h1; omega
        simp [q1, q2, q3]
      · have q1 : a = b := UInt8.toNat_inj.1 h1
        subst q1
        have q2 : ¬ a < a := fun h => by have h : a.toNat < a.toNat := h; omega
        simp only [q2, decide_false, Bool.false_or, beq_self_eq_true, Bool.true_and]
        exact h
      · have q1 : b < a := h1
        have q2 : ¬ a < b := fun h => by have h : a.toNat < b.toNat := h; omega
        have q3 : ¬ a = b := fun h => by rw [h] at h1; omega
        simp [q1, q2, q3]
set_option maxHeartbeats 1000000 in
set_option maxRecDepth 100000 in
theorem pnmay_any (n : Nd.Node) (v : Value) (B : Nat) (w : World) (hv : NdIs w B v n) (hB : B ≤ w.heap.size) :
    Calls Try.prog 13 #[v] w (IsBool (Nd.may n) w) := by
  obtain ⟨Ak, ck, Av, cv, Ai, ci, W, rfl, hk8, hW, H0, hbW, hs, hn⟩ := hv.open_ hB
  have HB := Lib.hid hbW
  have CH := Lib.hid (pnhas_any n _ B W 6 (by omega) hn (by omega))
  have c0 := H0.c0
  have c1 := H0.c1
  have c2 := H0.c2
  have c3 := H0.c3
  clear hv hn H0 hbW hs hB
  unfold ndB at hW
  unfold ndV at *
  go_enter Try.func13, Try.ntmps13
  go_wp2_with fail
  refine CH.out.mono ?_
  rintro e w1 ⟨rfl, b1⟩
  have HB1 := Lib.hid (HB.out.trans (b1.mono HB.out.size))
  clear CH b1
  go_wp2
  go_ret
  exact ⟨rfl, HB1.out⟩
set_option maxHeartbeats 1000000 in
set_option maxRecDepth 100000 in
theorem pnwide_any (n : Nd.Node) (v : Value) (B : Nat) (w : World) (hv : NdIs w B v n) (hB : B ≤ w.heap.size) :
    Calls Try.prog 11 #[v] w (IsBool (Nd.wide n) w) := by
  obtain ⟨Ak, ck, Av, cv, Ai, ci, W, rfl, hk8, hW, H0, hbW, hs, hn⟩ := hv.open_ hB
  have HB := Lib.hid hbW
  have c0 := H0.c0
  have c1 := H0.c1
  have c2 := H0.c2
  have c3 := H0.c3
  obtain ⟨ans, hans⟩ : ∃ b, Nd.wide n = b := ⟨_, rfl⟩
  by_cases hk : n.kind = 2
  · have CH := Lib.hid (pnhas_any n _ B W 13 (by omega) hn (by omega))
    have e : decide (Nd.Right n 13 13) = ans := by rw [← hans]; unfold Nd.wide Nd.rightB; rw [decide_eq_decide]; exact Nd.right_two hk
    rw [e] at CH
    rw [hans]
    have q : (((n.kind : Nat) : Int) == 2) = true := by rw [beq_iff_eq]; omega
    clear hv hn H0 hbW hs hB hans e hk
    unfold ndB at hW
    unfold ndV at *
    go_enter Try.func11, Try.ntmps11
    go_wp2_with fail
    refine CH.out.mono ?_
    rintro e w1 ⟨rfl, b1⟩
    have HB1 := Lib.hid (HB.out.trans (b1.mono HB.out.size))
    clear CH b1
    go_wp2
    go_ret
    exact ⟨rfl, HB1.out⟩
  · have CH := Lib.hid (pnhas_any n _ B W 12 (by omega) hn (by omega))
    have e : decide (Nd.Right n 12 12) = ans := by rw [← hans]; unfold Nd.wide Nd.rightB; rw [decide_eq_decide]; exact Nd.right_one hk
    rw [e] at CH
    rw [hans]
    have q : (((n.kind : Nat) : Int) == 2) = false := by rw [beq_eq_false_iff_ne]; omega
    clear hv hn H0 hbW hs hB hans e hk
    unfold ndB at hW
    unfold ndV at *
    go_enter Try.func11, Try.ntmps11
    go_wp2_with fail
    refine CH.out.mono ?_
    rintro e w1 ⟨rfl, b1⟩
    have HB1 := Lib.hid (HB.out.trans (b1.mono HB.out.size))
    clear CH b1
    go_wp2
    go_ret
    exact ⟨rfl, HB1.out⟩
set_option maxHeartbeats 1000000 in
set_option maxRecDepth 100000 in
theorem pniswideleaf_any (n : Nd.Node) (v : Value) (B : Nat) (w : World) (hv : NdIs w B v n) (hB : B ≤ w.heap.size) :
    Calls Try.prog 51 #[v] w (IsBool (decide (n.kind = 1) && Nd.wide n) w) := by
  obtain ⟨Ak, ck, Av, cv, Ai, ci, W, rfl, hk8, hW, H0, hbW, hs, hn⟩ := hv.open_ hB
  have HB := Lib.hid hbW
  have c0 := H0.c0
  have c1 := H0.c1
  have c2 := H0.c2
  have c3 := H0.c3
  have CH := Lib.hid (pnwide_any n _ B W hn (by omega))
  by_cases hk : n.kind = 1
  · have q : (((n.kind : Nat) : Int) == 1) = true := by rw [beq_iff_eq]; omega
    rw [decide_eq_true hk, Bool.true_and]
    clear hv hn H0 hbW hs hB hk
    unfold ndB at hW
    unfold ndV at *
    go_enter Try.func51, Try.ntmps51
    go_wp2_with fail
    refine CH.out.mono ?_
    rintro e w1 ⟨rfl, b1⟩
    have HB1 := Lib.hid (HB.out.trans (b1.mono HB.out.size))
    clear CH b1
    go_wp2
    go_ret
    exact ⟨rfl, HB1.out⟩
  · have q : (((n.kind : Nat) : Int) == 1) = false := by rw [beq_eq_false_iff_ne]; omega
    rw [decide_eq_false hk, Bool.false_and]
    clear hv hn H0 hbW hs hB hk CH
    unfold ndB at hW
    unfold ndV at *
    go_enter Try.func51, Try.ntmps51
    go_wp2
    go_ret
    exact ⟨rfl, HB.out⟩
set_option maxHeartbeats 1000000 in
set_option maxRecDepth 100000 in
theorem pnkid_any (n : Nd.Node) (key : ByteArray) (v : Value) (B : Nat) (w : World) (hv : NdIs w B v n) (hB : B ≤ w.heap.size) :
    Calls Try.prog 24 #[v, .string key] w (IsInt (Nd.kid n.keys key) w) := by
  obtain ⟨Ak, ck, Av, cv, Ai, ci, W, rfl, hk8, hW, H0, hbW, hs, hn⟩ := hv.open_ hB
  have hl : n.keys.length ≤ 9223372036854775807 := by have := H0.keys.len_; simp only [maxLen] at this; omega
  have HB := Lib.hid hbW
  have HK := Lib.hid H0.keys
  have hc1 := H0.c1
  clear hv hn H0 hbW hs hB
  unfold ndB at hW
  unfold ndV
  go_enter Try.func24, Try.ntmps24
  go_wp2
  go_loopw [5, 11] (fun q i wr => ∃ k : Nat, k ≤ n.keys.length ∧ i = .int .i64 k ∧ q = .int .i64 ((Nd.kid (n.keys.take k) key : Nat) : Int) ∧ wr = W) (fun _ i _ => n.keys.length - (intOf i).toNat)
  case atStart => exact ⟨0, by omega, rfl, rfl, by first | rfl | exact hW⟩
  case round =>
    obtain ⟨k, hk, rfl, rfl, rfl⟩ := hrel
    have hq : Nd.kid (n.keys.take k) key ≤ k := by
      exact Nat.le_trans (List.countP_le_length) (by simp; omega)
    clear hc1 hW
    by_cases hlt : k < n.keys.length
    · obtain ⟨b1, o1, x, rfl, hb1, hx, hd, hcell⟩ := HK.out.str_ hlt
      have HS := Lib.hid (Nd.count_succ (p := fun x => !(Nd.bl key x)) hd)
      clear hd hx
      have HLO := Lib.hid (less_or x.toList key.toList)
      cases h1 : Op.bytesLess x.toList key.toList <;> cases h2 : (x.toList == key.toList)
      · have HBL : Hid (Op.bytesLess key.toList x.toList = true) := by have := HLO.out; rw [h1, h2] at this; unfold Hid; simpa using this
        go_wp2
        go_roundw
        case rel =>
          have e : Nd.kid (n.keys.take (k + 1)) key = Nd.kid (n.keys.take k) key := by
            have := HS.out; unfold Nd.kid; rw [this]; simp [Nd.bl, HBL.out]
          exact ⟨k + 1, by omega, by go_num, by rw [e], trivial⟩
        case measure => simp [intOf]; omega
      all_goals
        have HBL : Hid (Op.bytesLess key.toList x.toList = false) := by have := HLO.out; rw [h1, h2] at this; unfold Hid; simpa using this
        go_wp2
        go_roundw
        case rel =>
          have e : Nd.kid (n.keys.take (k + 1)) key = Nd.kid (n.keys.take k) key + 1 := by
            have := HS.out; unfold Nd.kid; rw [this]; simp [Nd.bl, HBL.out]
          exact ⟨k + 1, by omega, by go_num, by rw [e]; go_num, trivial⟩
        case measure => simp [intOf]; omega
    · have ek : k = n.keys.length := by omega
      subst ek
      go_wp2
      go_ret
      rw [List.take_length]
      exact ⟨rfl, HB.out⟩
set_option maxHeartbeats 1000000 in
set_option maxRecDepth 100000 in
theorem pnfind_any (n : Nd.Node) (key : ByteArray) (v : Value) (B : Nat) (w : World) (hv : NdIs w B v n) (hB : B ≤ w.heap.size) :
    Calls Try.prog 22 #[v, .string key] w (IsIB (Nd.below n.keys key) (Nd.isAt n.keys key) w) := by
  obtain ⟨Ak, ck, Av, cv, Ai, ci, W, rfl, hk8, hW, H0, hbW, hs, hn⟩ := hv.open_ hB
  have hl : n.keys.length ≤ 9223372036854775807 := by have := H0.keys.len_; simp only [maxLen] at this; omega
  have HB := Lib.hid hbW
  have HK := Lib.hid H0.keys
  have hc1 := H0.c1
  clear hv hn H0 hbW hs hB
  unfold ndB at hW
  unfold ndV
  go_enter Try.func22, Try.ntmps22
  go_wp2
  go_loopw [6, 12] (fun q i wr => ∃ k : Nat, k ≤ n.keys.length ∧ i = .int .i64 k ∧ q = .int .i64 ((Nd.below (n.keys.take k) key : Nat) : Int) ∧ wr = W) (fun _ i _ => n.keys.length - (intOf i).toNat)
  case atStart => exact ⟨0, by omega, rfl, rfl, by first | rfl | exact hW⟩
  case round =>
    obtain ⟨k, hk, rfl, rfl, rfl⟩ := hrel
    have hq : Nd.below (n.keys.take k) key ≤ k := by
      exact Nat.le_trans (List.countP_le_length) (by simp; omega)
    clear hW
    by_cases hlt : k < n.keys.length
    · obtain ⟨b1, o1, x, rfl, hb1, hx, hd, hcell⟩ := HK.out.str_ hlt
      have HS := Lib.hid (Nd.count_succ (p := fun x => Nd.bl x key) hd)
      clear hd hx hc1
      cases hb : Op.bytesLess x.toList key.toList
      · go_wp2
        go_roundw
        case rel =>
          have e : Nd.below (n.keys.take (k + 1)) key = Nd.below (n.keys.take k) key := by
            have := HS.out; unfold Nd.below; rw [this]; simp [Nd.bl, hb]
          exact ⟨k + 1, by omega, by go_num, by rw [e], trivial⟩
        case measure => simp [intOf]; omega
      · go_wp2
        go_roundw
        case rel =>
          have e : Nd.below (n.keys.take (k + 1)) key = Nd.below (n.keys.take k) key + 1 := by
            have := HS.out; unfold Nd.below; rw [this]; simp [Nd.bl, hb]
          exact ⟨k + 1, by omega, by go_num, by rw [e]; go_num, trivial⟩
        case measure => simp [intOf]; omega
    · have ek : k = n.keys.length := by omega
      subst ek
      rw [List.take_length] at hq ⊢
      obtain ⟨q, hq0⟩ : ∃ q, Nd.below n.keys key = q := ⟨_, rfl⟩
      have HQ := Lib.hid hq0
      rw [hq0] at hq ⊢
      clear hq0
      by_cases hlt2 : q < n.keys.length
      · obtain ⟨b1, o1, x, rfl, hb1, hx, hd, hcell⟩ := HK.out.str_ hlt2
        have HD := Lib.hid hd
        clear hd hx
        have hli : (q : Int) < (n.keys.length : Int) := by omega
        obtain ⟨bq, hbq⟩ : ∃ b, (x.toList == key.toList) = b := ⟨_, rfl⟩
        go_wp2
        go_quiet (fail)
        go_wp2
        go_ret2
        refine ⟨?_, below_drewN HB.out _⟩
        rw [← hbq, name_eqN]
        have e : Nd.isAt n.keys key = decide (x = key) := by
          unfold Nd.isAt; rw [HQ.out, HD.out]; simp
        rw [e, HQ.out]; rfl
      · have hli : ¬ (q : Int) < (n.keys.length : Int) := by omega
        go_wp2
        go_quiet (fail)
        go_wp2
        go_ret2
        refine ⟨?_, below_drewN HB.out _⟩
        have e : Nd.isAt n.keys key = false := by
          unfold Nd.isAt; rw [HQ.out, List.getElem?_eq_none (by omega)]; simp
        rw [e, HQ.out]; rfl
end Go.Proofs.Ytlefkaoibokjdaa
namespace Go.Proofs.Ytlefkaoibokjdaa
open Go.RowKit
set_option linter.unusedVariables false
namespace Nd
/-- The bytes of a text. -/
def oct (x : ByteArray) : List Nat := x.toList.map (·.toNat)
theorem oct_len (x : ByteArray) : (oct x).length = x.size := by unfold oct; rw [List.length_map, ByteArray.toList_eq]; rfl
theorem oct_lt (x : ByteArray) : ∀ y ∈ oct x, y < 256 := by
  intro y hy
  obtain ⟨z, _, rfl⟩ := List.mem_map.1 hy
  exact z.toNat_lt
def kidAt (n : Node) (i : Nat) : Nat := (n.kids.getD i 0).toNat
/-- A key, and what belongs to it. -/
def item (n : Node) (i : Nat) : List Nat := putRow (oct (n.keys.getD i ByteArray.empty)) ++ (if n.kind = 2 then Mt.put (kidAt n (i + 1)) else putRow (oct (n.vals.getD i ByteArray.empty)))
def head (n : Node) : List Nat := Mt.put n.keys.length ++ (if n.kind = 2 then Mt.put (kidAt n 0) else [])
def body (n : Node) : Nat → List Nat
  | 0 => head n
  | k + 1 => body n k ++ item n k
def bytes (n : Node) : List Nat := body n n.keys.length
def putE (n : Node) : List Nat × Nat := if Right n 6 6 then (bytes n, 0) else ([], 2)
section
variable {n : Node}
theorem put_small_len {m : Nat} (h : m < 128) : (Mt.put m).length = 1 := by rw [Mt.put_small h]; rfl
theorem row_len {x : ByteArray} (h : x.size ≤ 40) : (putRow (oct x)).length ≤ 41 := by
  rw [putRow_len, oct_len, put_small_len (by omega)]; omega
theorem Right.key (h : Right n 6 6) {i : Nat} (hi : i < n.keys.length) : 1 ≤ (n.keys.getD i ByteArray.empty).size ∧ (n.keys.getD i ByteArray.empty).size ≤ 40 := by
  rw [List.getD_eq_getElem?_getD, List.getElem?_eq_getElem hi]
  exact h.1.1 _ (List.getElem_mem _)
theorem Right.val (h : Right n 6 6) {i : Nat} (hi : i < n.vals.length) : (n.vals.getD i ByteArray.empty).size ≤ 40 := by
  rw [List.getD_eq_getElem?_getD, List.getElem?_eq_getElem hi]
  exact h.2.1 _ (List.getElem_mem _)
theorem Right.kid (h : Right n 6 6) {i : Nat} (hi : i < n.kids.length) : 2 ≤ n.kids.getD i 0 ∧ n.kids.getD i 0 ≤ 65535 := by
  rw [List.getD_eq_getElem?_getD, List.getElem?_eq_getElem hi]
  exact h.2.2.1 _ (List.getElem_mem _)
theorem Right.six (h : Right n 6 6) : n.keys.length ≤ 6 := by rcases h.2.2.2 with h | h <;> omega
theorem Right.kinds (h : Right n 6 6) : (n.kind = 2 ∧ n.kids.length = n.keys.length + 1 ∧ n.vals = [] ∧ 1 ≤ n.keys.length) ∨ (n.kind = 1 ∧ n.vals.length = n.keys.length ∧ n.kids = []) := by
  rcases h.2.2.2 with h | h
  · exact .inr ⟨h.1, h.2.2.1, List.length_eq_zero_iff.1 h.2.2.2⟩
  · exact .inl ⟨h.1, h.2.2.2.1, List.length_eq_zero_iff.1 h.2.2.2.2, h.2.1⟩
theorem item_len (h : Right n 6 6) {i : Nat} (hi : i < n.keys.length) : (item n i).length ≤ 82 := by
  unfold item
  rw [List.length_append]
  have h1 := row_len (h.key hi).2
  split
  · have := Mt.put_len_le (kidAt n (i + 1)); omega
  · rcases h.kinds with h2 | h2
    · rename_i h3; exact absurd h2.1 h3
    · have := row_len (h.val (i := i) (by omega)); omega
theorem head_len (n : Node) : (head n).length ≤ 20 := by
  unfold head
  rw [List.length_append]
  have h1 := Mt.put_len_le n.keys.length
  split
  · have := Mt.put_len_le (kidAt n 0); omega
  · simp; omega
theorem body_len (h : Right n 6 6) : ∀ k, k ≤ n.keys.length → (body n k).length ≤ 20 + 82 * k
  | 0, _ => by have := head_len n; simpa [body] using this
  | k + 1, hk => by
    have h1 := body_len h k (by omega)
    have h2 := item_len h (i := k) (by omega)
    show (body n k ++ item n k).length ≤ _
    rw [List.length_append]; omega
end
end Nd
end Go.Proofs.Ytlefkaoibokjdaa
namespace Go.Proofs.Ytlefkaoibokjdaa
open Go.RowKit
set_option linter.unusedVariables false
theorem conv_oct (w : World) (x : ByteArray) (hx : x.size ≤ 1000000) : ∃ A c W, (convert 9 27 (.string x)).run Try.prog w = .ok (.slice A x.size c) W ∧ Bv W W.heap.size (.slice A x.size c) (Nd.oct x) ∧ Below w.heap.size w W := by
  have h := Lib.run_convert_string_bytes (P := Try.prog) w 9 27 5 x Try.underlying9 Try.underlying27 Try.underlying5
  have hs := Lib.bytesWorld_size w 5 x
  have e0 : ∀ j c, (Nd.oct x)[j]? = some c → j < x.size ∧ x.data.toList.getD j 0 = UInt8.ofNat c ∧ c < 256 := fun j c hj => by
    have hl := (List.getElem?_eq_some_iff.1 hj).1
    rw [Nd.oct_len] at hl
    have hc := Nd.oct_lt x c (List.mem_of_getElem? hj)
    refine ⟨hl, ?_, hc⟩
    unfold Nd.oct at hj
    rw [ByteArray.toList_eq, List.getElem?_map, Option.map_eq_some_iff] at hj
    obtain ⟨z, hz, rfl⟩ := hj
    rw [List.getD_eq_getElem?_getD, hz, Option.getD_some, UInt8.ofNat_toNat]
  refine ⟨_, _, _, h, ⟨some ⟨w.heap.size, 0, none⟩, grownCap w x.size 0 5, by rw [Nd.oct_len], by rw [Nd.oct_len]; exact grownCap_ge _ _ _ _, grownCap_le_maxLen _ _ _ _ (by simp only [maxLen]; omega), by simp, Nd.oct_lt x, fun _ => ⟨w.heap.size, 0, rfl, by omega, fun j c hj => ?_⟩⟩, ?_⟩
  · obtain ⟨h1, h2, h3⟩ := e0 j c hj
    rw [Nat.zero_add, Lib.bytesWorld_cell w 5 x j h1, h2]
    congr 2
    simp only [UInt8.toNat_ofNat']
    omega
  · exact ⟨rfl, rfl, rfl, by rw [hs]; omega, fun k hk => Lib.bytesWorld_at_old w 5 x k hk⟩
end Go.Proofs.Ytlefkaoibokjdaa
