/-
  BqBegin: bpe.Begin.
  MpJ: A kind of maps: keys that are pairs of integers (an array of two), elements that are two integers (a struct): the joins of pairs.
  QuMath: Plain mathematics of chapter 7 (queue): lists in their order, kept by inserting behind what is not behind.
-/
import Derived.Test.YtaedhccmdbodlaaPk08
import Derived.Test.YtaedhccmdbodlaaPk14
import Derived.Test.YtaedhccmdbodlaaPk09
import Derived.Deep.WholeRow
import Derived.Test.YtaedhccmdbodlaaPk11
import Derived.Test.YtaedhccmdbodlaaPk01
namespace Go.Proofs.Ytaedhccmdbodlaa
open Go.RowKit
set_option linter.unusedVariables false

theorem size_256 : (Try.prog.info? 56).map (·.size) = some 256 := by kernel_rfl

theorem zero_256 : Try.zeroCells56.size = 256 := by rw [zero_ints, intsC_size, List.length_replicate]

/-- The row as far as the first k bytes. -/
def begTo (P : List Vo.Pc) (b : List Nat) (k : Nat) : List Int := (Bp.beginL P b).take k ++ List.replicate (b.length - k) 0
theorem begTo_zero (P : List Vo.Pc) (b : List Nat) : begTo P b 0 = List.replicate b.length 0 := by simp [begTo]
theorem begTo_len {P : List Vo.Pc} {b : List Nat} {k : Nat} (h : k ≤ b.length) : (begTo P b k).length = b.length := by
  unfold begTo
  rw [List.length_append, List.length_take, List.length_replicate, Bp.begin_len]
  omega
theorem begTo_all (P : List Vo.Pc) (b : List Nat) : begTo P b b.length = Bp.beginL P b := by
  unfold begTo
  rw [Nat.sub_self, List.replicate_zero, List.append_nil, List.take_of_length_le (by rw [Bp.begin_len]; exact Nat.le_refl _)]
theorem begTo_set {P : List Vo.Pc} {b : List Nat} {k x : Nat} (h : b[k]? = some x) : (begTo P b k).set k ((Vo.tokenOf P x : Nat) : Int) = begTo P b (k + 1) := by
  have hk := (List.getElem?_eq_some_iff.1 h).1
  have hl : ((Bp.beginL P b).take k).length = k := by rw [List.length_take, Bp.begin_len]; omega
  have hq : (Bp.beginL P b)[k]? = some ((Vo.tokenOf P x : Nat) : Int) := by unfold Bp.beginL; rw [List.getElem?_map, h]; rfl
  have e : b.length - k = (b.length - (k + 1)) + 1 := by omega
  unfold begTo
  rw [List.set_append_right _ _ (by omega), hl, Nat.sub_self, e, List.replicate_succ, List.set_cons_zero, take_snoc hq, List.append_assoc]
  rfl

set_option maxRecDepth 100000 in
set_option maxHeartbeats 2000000 in
theorem pbegin_big (P : List Vo.Pc) (v : Value) (b : List Nat) (u : Value) (B : Nat) (w : World) (hv : Lv pK w B v P) (hu : Lv yK w B u b) (hB : B ≤ w.heap.size) :
    Calls Try.prog 15 #[.agg #[v], u] w (IsLE iK (Bp.beginE P b) w) := by
  obtain ⟨W, hW⟩ : ∃ W, w.alloc (.cells #[v] 24) = W := ⟨_, rfl⟩
  obtain ⟨d0, hsz, hb⟩ := boxed hW
  have HM := Lib.hid (pmay_be P v B W (hv.below_ hb hB) (Nat.le_trans hB hb.size))
  have HV := Lib.hid hv
  have HU := Lib.hid hu
  have HB0 := Lib.hid hb
  have HBB := Lib.hid hB
  have HSZ := Lib.hid hsz
  obtain ⟨A, c, rfl, -, -, -, -, -⟩ := hv
  obtain ⟨A2, c2, rfl, k1, k2, -, -, -⟩ := hu
  have hll : b.length ≤ 9223372036854775807 := by simp only [maxLen] at k2; omega
  clear hb hsz hB k1 k2
  by_cases hm : Vo.May P
  · rw [decide_eq_true hm] at HM
    by_cases hbig : 4096 < b.length
    · have HX : Hid (Bp.beginE P b = ([], 3)) := by unfold Hid Bp.beginE; rw [if_pos hm, if_pos hbig]
      have hbi : (4096 : Int) < (b.length : Int) := by omega
      clear hm hbig
      go_enter Try.func15, Try.ntmps15
      go_wp2_with (fail)
      refine (HM.out).mono ?_
      rintro e w1 ⟨rfl, hb1⟩
      have HB1 := Lib.hid (HB0.out.trans (hb1.mono HB0.out.size))
      clear hb1 HM
      go_wp2
      go_ret2
      exact IsLE.none_b HX.out rfl HB1.out
    · have HX : Hid (Bp.beginE P b = (Bp.beginL P b, 0)) := by unfold Hid Bp.beginE; rw [if_pos hm, if_neg hbig]
      have hbi : ¬ (4096 : Int) < (b.length : Int) := by omega
      have hbn : b.length ≤ 4096 := by omega
      have hle := (Vo.may_iff.1 hm).1
      have hok : ∀ q ∈ P, q.byte < 256 := fun q hq => (HV.out.ok_ q hq).1
      have HTK : Hid (∀ c, c < 256 → (Bp.toks P)[c]? = some ((Vo.tokenOf P c : Nat) : Int)) := fun c hc => Bp.toks_at hm hok hc
      have HTL : Hid (∀ c, c < 256 → Vo.tokenOf P c < P.length) := fun c hc => Vo.tokenOf_lt hm hok hc
      clear hm hbig hok
      go_enter Try.func15, Try.ntmps15
      go_wp2_with (fail)
      refine (HM.out).mono ?_
      rintro e w1 ⟨rfl, hb1⟩
      have HB1 := Lib.hid (HB0.out.trans (hb1.mono HB0.out.size))
      have d1 : w1.cell? ⟨w.heap.size, 0, none⟩ = some (.slice A P.length c) := (hb1.cell (p := ⟨w.heap.size, 0, none⟩) (by show w.heap.size < _; have := HSZ.out; omega)).trans d0
      have HS1 : Hid (w.heap.size + 1 ≤ w1.heap.size) := by unfold Hid; have := hb1.size; have := HSZ.out; omega
      have HT := Lib.hid (pbyte_tokens P _ B w1 (HV.out.below_ HB1.out HBB.out) (Nat.le_trans HBB.out HB1.out.size) hle)
      clear hb1 HM
      go_wp2_with (fail)
      refine (HT.out).mono ?_
      rintro e w2 ⟨rfl, hb2⟩
      have HB2 := Lib.hid (HB1.out.trans (hb2.mono HB1.out.size))
      have HS2 : Hid (w.heap.size + 1 ≤ w2.heap.size) := by unfold Hid; have := hb2.size; have := HS1.out; omega
      obtain ⟨tk, htk⟩ : ∃ tk, intsC (Bp.toks P) = tk := ⟨_, rfl⟩
      have hts : tk.size = 256 := by rw [← htk, intsC_size, Bp.toks_len]
      have hone : tk.all (·.oneCell') = true := by rw [← htk]; exact intsC_one _
      rw [htk]
      have HSI : Hid ((Try.prog.info? 56).map (·.size) = some tk.size) := by unfold Hid; rw [hts]; exact size_256
      have HSZ2 : Hid (Try.zeroCells56.size = tk.size) := by unfold Hid; rw [hts]; exact zero_256
      have HTK0 := Lib.hid htk
      clear hb2 HT htk d1
      obtain ⟨w3, hw3⟩ : ∃ w3, w2.alloc (.cells tk 56) = w3 := ⟨_, rfl⟩
      have hr3 : Rw w3 w2.heap.size 56 tk := by rw [← hw3]; exact Rw.new _ _ _
      have hb3 : Below w.heap.size w w3 := by rw [← hw3]; exact HB2.out.alloc HB2.out.size _
      have hs3 : w3.heap.size = w2.heap.size + 1 := by rw [← hw3]; simp
      have HB3 : Hid (Below w.heap.size w w3 ∧ w3.heap.size = w2.heap.size + 1) := ⟨hb3, hs3⟩
      have HR3 := Lib.hid hr3
      clear hr3 hb3 hs3
      go_wp2_with (first
        | (refine wpList_store_row rfl _ _ _ rfl w2.heap.size tk rfl rfl 56 _ (heap_alloc_new w2 _) HSI.out HSZ2.out hone ?_
           rw [World.setRow_alloc_new])
        | (at_make; go_must (refine wpList_make_l _ iK rfl _ _ rfl w.heap.size .i64 .i64 _ _ b.length b.length rfl rfl rfl rfl (Nat.le_refl _) (by show 8 * _ ≤ _; omega) (by simp only [maxLen]; omega) HB3.out.1.size ?_; intro w4 hO hG)))
      have HO4 : Hid (OwnL iK w4 w.heap.size (.slice (some ⟨w3.heap.size, 0, none⟩) b.length b.length) (begTo P b 0)) := by
        unfold Hid
        rw [begTo_zero]
        exact hO
      have HB4 : Hid (Below w3.heap.size w3 w4) := (Below.refl _ _).grown hG (Nat.le_refl _) (by intro k hk; cases hk)
      clear hO hG hw3
      go_loopw [23] (fun i wr => ∃ k : Nat, k ≤ b.length ∧ i = .int .i64 k ∧ Hid (OwnL iK wr w.heap.size (.slice (some ⟨w3.heap.size, 0, none⟩) b.length b.length) (begTo P b k)) ∧ Hid (Below w3.heap.size w3 wr)) (fun i _ => b.length - (intOf i).toNat)
      case atStart => exact ⟨0, Nat.zero_le _, rfl, HO4.out, HB4.out⟩
      case round =>
        obtain ⟨k, hk, rfl, HO, HBr⟩ := hrel
        have HBw : Hid (Below w.heap.size w wr) := HB3.out.1.trans (HBr.out.mono HB3.out.1.size)
        have wk : IntKind.i64.wrap ((k : Int) + 1) = (k : Int) + 1 := by rw [IntKind.wrap_i64]; omega
        by_cases hlt : k < b.length
        · obtain ⟨bb, off, x, rfl, hbB, hx, hq, hcx⟩ := (HU.out.below_ HBw.out HBB.out).byte_ hlt
          have hx8 : x < 256 := hx
          have hxi : (x : Int) < 256 := by omega
          have hki : (k : Int) < (b.length : Int) := by omega
          have hct : wr.cell? ⟨w2.heap.size, x, none⟩ = some (.int .i64 ((Vo.tokenOf P x : Nat) : Int)) := by
            rw [(HR3.out.below HBr.out (by have := HB3.out.2; omega)).cell, ← HTK0.out]
            exact intsC_at (HTK.out x hx8)
          have hyI : I64 ((Vo.tokenOf P x : Nat) : Int) := by have := HTL.out x hx8; unfold I64; omega
          have hkl : k < (begTo P b k).length := by rw [begTo_len hk]; exact hlt
          obtain ⟨y, _, hc2⟩ := HO.out.was_ hkl
          have hfr := HO.out.cool_ k
          obtain ⟨hs1, hg1⟩ := HO.out.setInt_ hkl hyI
          rw [begTo_set hq] at hs1
          have HS := Lib.hid hs1
          have HB5 : Hid (Below w3.heap.size w3 (wr.setCell ⟨w3.heap.size, k, none⟩ (.int .i64 ((Vo.tokenOf P x : Nat) : Int)))) := HBr.out.setCell (p := ⟨w3.heap.size, k, none⟩) (Nat.le_refl _) _
          clear hx hq hs1 hg1 hkl hyI
          go_wp2
          go_roundw
          case rel => exact ⟨k + 1, hlt, by go_num, HS.out, HB5.out⟩
          case measure => simp [intOf]; omega
        · obtain rfl : k = b.length := by omega
          have hki : ¬ ((b.length : Int) < (b.length : Int)) := by omega
          have HF := Lib.hid (begTo_all P b)
          go_wp2
          go_ret2
          refine IsLE.of HX.out (by rw [Bp.begin_len]) rfl ?_ HBw.out
          rw [← HF.out]
          exact HO.out
  · rw [decide_eq_false hm] at HM
    have HX : Hid (Bp.beginE P b = ([], 11)) := by unfold Hid Bp.beginE; rw [if_neg hm]
    clear hm
    go_enter Try.func15, Try.ntmps15
    go_wp2_with (fail)
    refine (HM.out).mono ?_
    rintro e w1 ⟨rfl, hb1⟩
    have HB1 := Lib.hid (HB0.out.trans (hb1.mono HB0.out.size))
    clear hb1 HM
    go_wp2
    go_ret2
    exact IsLE.none_b HX.out rfl HB1.out
end Go.Proofs.Ytaedhccmdbodlaa
namespace Go.Proofs.Ytaedhccmdbodlaa
open Go.RowKit Go.Maps
set_option linter.unusedVariables false

/-- What two integers read as. -/
def readTwo (q1 q2 : IntKind) : Value → Option (DataW Unit × List MemPlace)
  | .agg cs => match cs.toList with
    | [.int a x, .int b y] => if a = q1 ∧ b = q2 then some (.agg [.lit (.int q1 x), .lit (.int q2 y)], []) else none
    | _ => none
  | _ => none
theorem readTwo_val (q1 q2 : IntKind) (x y : Int) : readTwo q1 q2 (.agg #[.int q1 x, .int q2 y]) = some (.agg [.lit (.int q1 x), .lit (.int q2 y)], []) := by simp [readTwo]
theorem readTwo_inv (q1 q2 : IntKind) (v : Value) (x y : Int) (ps : List MemPlace) (h : readTwo q1 q2 v = some (.agg [.lit (.int q1 x), .lit (.int q2 y)], ps)) : v = .agg #[.int q1 x, .int q2 y] := by
  unfold readTwo at h
  split at h
  · rename_i cs
    split at h
    · rename_i a x' b y' hc
      split at h
      · rename_i e
        obtain ⟨rfl, rfl⟩ := e
        simp at h
        obtain ⟨⟨rfl, rfl⟩, -⟩ := h
        have : cs = #[.int a x', .int b y'] := by
          apply Array.ext'
          rw [hc]
        rw [this]
      · cases h
    · cases h
  · cases h
/-- map[[2]int kind]struct of an int kind and a uint kind. -/
def mpTwo {P : Program} (t k ek e : TypeId) (qk q1 q2 : IntKind) (ht : P.underlying t = some (.map k e)) (A : WideMaps.ArrKey P k ek 2) (hek : P.underlying ek = some (.int qk)) (hsz : ∃ m, P.types.size = m + 1) (hlaw : WideMaps.KeyLaw P k) (hz : ∀ w, (zeroValue e).run P w = .ok (.agg #[.int q1 0, .int q2 0]) w) : MpK P (Int × Int) (Int × Nat) where
  t := t
  k := k
  e := e
  key := fun x => .agg #[.int qk x.1, .int qk x.2]
  lit := fun x => .string (keyBytes [.int qk x.1, .int qk x.2])
  ok := fun x => (Lit.int qk x.1).wf = true ∧ (Lit.int qk x.2).wf = true
  val := fun y => .agg #[.int q1 y.1, .int q2 (y.2 : Nat)]
  z := (0, 0)
  read := readTwo q1 q2
  dat := fun y => .agg [.lit (.int q1 y.1), .lit (.int q2 (y.2 : Nat))]
  keyed := Keyed.of_law hlaw
  under := ht
  law := fun x hx => WideMaps.keyOf_pair A hek hsz hx.1 hx.2
  inj := fun x y h => by
    injection h with h
    simp at h
    exact Prod.ext h.1 h.2
  zero := hz
  readVal := fun y => readTwo_val q1 q2 y.1 (y.2 : Nat)
  readInv := fun v y ps h => readTwo_inv q1 q2 v y.1 (y.2 : Nat) ps h
end Go.Proofs.Ytaedhccmdbodlaa
namespace Go.Proofs.Ytaedhccmdbodlaa.Qu

section
variable {α : Type} {lt : α → α → Bool}
/-- An order, as the chapter says. -/
structure Order (lt : α → α → Bool) : Prop where
  irr : ∀ a, lt a a = false
  trans : ∀ a b c, lt a b = true → lt b c = true → lt a c = true
  alike : ∀ a b c, lt a b = true → lt a c = true ∨ lt c b = true
theorem Order.asymm (h : Order lt) {a b : α} (hab : lt a b = true) : lt b a = false := by
  cases hba : lt b a with
  | false => rfl
  | true => have h1 := h.trans a b a hab hba; rw [h.irr a] at h1; cases h1
/-- What is not behind, then strictly behind. -/
theorem Order.le_lt (h : Order lt) {a b c : α} (hab : lt b a = false) (hbc : lt b c = true) : lt a c = true := by
  rcases h.alike b c a hbc with h1 | h1
  · rw [hab] at h1; cases h1
  · exact h1
theorem Order.lt_le (h : Order lt) {a b c : α} (hab : lt a b = true) (hbc : lt c b = false) : lt a c = true := by
  rcases h.alike a b c hab with h1 | h1
  · exact h1
  · rw [hbc] at h1; cases h1
theorem Order.le_le (h : Order lt) {a b c : α} (hab : lt b a = false) (hbc : lt c b = false) : lt c a = false := by
  cases hca : lt c a with
  | false => rfl
  | true =>
    rcases h.alike c a b hca with h1 | h1
    · rw [hbc] at h1; cases h1
    · rw [hab] at h1; cases h1

/-- Behind all that are not behind it. -/
def ins (lt : α → α → Bool) : List α → α → List α
  | [], x => [x]
  | y :: r, x => if lt x y = true then x :: y :: r else y :: ins lt r x
theorem ins_cons (y : α) (r : List α) (x : α) : ins lt (y :: r) x = if lt x y = true then x :: y :: r else y :: ins lt r x := rfl
/-- All of a list, one behind the other. -/
def sorted (lt : α → α → Bool) (l : List α) : List α := l.foldl (ins lt) []
theorem sorted_snoc (l : List α) (x : α) : sorted lt (l ++ [x]) = ins lt (sorted lt l) x := by simp [sorted]
theorem ins_perm (S : List α) (x : α) : (ins lt S x).Perm (x :: S) := by
  induction S with
  | nil => exact List.Perm.refl _
  | cons y r ih =>
    unfold ins
    by_cases h : lt x y = true
    · rw [if_pos h]
    · rw [if_neg h]
      exact (ih.cons y).trans (List.Perm.swap x y r)
theorem ins_len (S : List α) (x : α) : (ins lt S x).length = S.length + 1 := by rw [(ins_perm S x).length_eq]; rfl
theorem foldl_perm (T l : List α) : (l.foldl (ins lt) T).Perm (T ++ l) := by
  induction l generalizing T with
  | nil => simp
  | cons x r ih =>
    refine (ih (ins lt T x)).trans ?_
    refine ((ins_perm T x).append_right r).trans ?_
    rw [List.cons_append]
    exact List.perm_middle.symm
theorem sorted_perm (l : List α) : (sorted lt l).Perm l := foldl_perm (lt := lt) [] l
theorem sorted_len (l : List α) : (sorted lt l).length = l.length := (sorted_perm l).length_eq

/-- In its order: none is less than one ahead of it. -/
def Row (lt : α → α → Bool) (S : List α) : Prop := S.Pairwise (fun a b => lt b a = false)
theorem Row.tail {x : α} {S : List α} (h : Row lt (x :: S)) : Row lt S := (List.pairwise_cons.1 h).2
theorem Row.head {x : α} {S : List α} (h : Row lt (x :: S)) : ∀ y ∈ S, lt y x = false := (List.pairwise_cons.1 h).1
theorem ins_row (ho : Order lt) {S : List α} (h : Row lt S) (x : α) : Row lt (ins lt S x) := by
  induction S with
  | nil => simp [ins, Row]
  | cons y r ih =>
    unfold ins
    by_cases hx : lt x y = true
    · rw [if_pos hx]
      refine List.pairwise_cons.2 ⟨fun z hz => ?_, h⟩
      rcases List.mem_cons.1 hz with rfl | hz
      · exact ho.asymm hx
      · exact ho.asymm (ho.lt_le hx (h.head z hz))
    · rw [if_neg hx]
      refine List.pairwise_cons.2 ⟨fun z hz => ?_, ih h.tail⟩
      rcases List.mem_cons.1 ((ins_perm r x).mem_iff.1 hz) with rfl | hz
      · simpa using hx
      · exact h.head z hz
theorem foldl_row (ho : Order lt) {T : List α} (h : Row lt T) (l : List α) : Row lt (l.foldl (ins lt) T) := by
  induction l generalizing T with
  | nil => exact h
  | cons x r ih => exact ih (ins_row ho h x)
theorem sorted_row (ho : Order lt) (l : List α) : Row lt (sorted lt l) := foldl_row ho (by simp [Row]) l

/-! Two that are sorted, and then sorted together. -/
theorem ins_comm (ho : Order lt) {x y : α} (h : lt x y = true) (S : List α) : ins lt (ins lt S x) y = ins lt (ins lt S y) x := by
  have hyx := ho.asymm h
  induction S with
  | nil => simp [ins, h, hyx]
  | cons z r ih =>
    by_cases hxz : lt x z = true
    · by_cases hyz : lt y z = true
      · simp [ins, hxz, hyz, h, hyx]
      · simp [ins, hxz, hyz, hyx]
    · by_cases hyz : lt y z = true
      · exact absurd (ho.trans x y z h hyz) hxz
      · simp [ins, hxz, hyz, ih]
theorem foldl_past (ho : Order lt) {x : α} {S : List α} (h : ∀ z ∈ S, lt x z = true) (T : List α) : S.foldl (ins lt) (ins lt T x) = ins lt (S.foldl (ins lt) T) x := by
  induction S generalizing T with
  | nil => rfl
  | cons z r ih =>
    rw [List.foldl_cons, List.foldl_cons, ins_comm ho (h z (by simp)), ih (fun y hy => h y (by simp [hy]))]
theorem foldl_ins (ho : Order lt) {S : List α} (h : Row lt S) (x : α) (T : List α) : (ins lt S x).foldl (ins lt) T = ins lt (S.foldl (ins lt) T) x := by
  induction S generalizing T with
  | nil => rfl
  | cons y r ih =>
    rw [ins_cons]
    by_cases hx : lt x y = true
    · rw [if_pos hx, List.foldl_cons]
      exact foldl_past ho (fun z hz => by
        rcases List.mem_cons.1 hz with rfl | hz
        · exact hx
        · exact ho.lt_le hx (h.head z hz)) T
    · rw [if_neg hx, List.foldl_cons, List.foldl_cons, ih h.tail]
theorem snoc_ind {β : Type} {C : List β → Prop} (h0 : C []) (h1 : ∀ l x, C l → C (l ++ [x])) (l : List β) : C l := by
  have : ∀ m : List β, C m.reverse := by
    intro m
    induction m with
    | nil => exact h0
    | cons x r ih => rw [List.reverse_cons]; exact h1 _ _ ih
  have := this l.reverse
  rwa [List.reverse_reverse] at this
theorem foldl_sorted (ho : Order lt) (l T : List α) : (sorted lt l).foldl (ins lt) T = l.foldl (ins lt) T := by
  induction l using snoc_ind with
  | h0 => rfl
  | h1 l x ih => rw [sorted_snoc, foldl_ins ho (sorted_row ho l), ih, List.foldl_append]; rfl
theorem sorted_both (ho : Order lt) (a b : List α) : sorted lt (sorted lt a ++ sorted lt b) = sorted lt (a ++ b) := by
  unfold sorted
  rw [List.foldl_append, List.foldl_append]
  show (sorted lt b).foldl (ins lt) ((sorted lt a).foldl (ins lt) []) = _
  rw [foldl_sorted ho, foldl_sorted ho]
/-- What stands in its order already. -/
theorem sorted_of_row {l : List α} (h : Row lt l) : sorted lt l = l := by
  induction l using snoc_ind with
  | h0 => rfl
  | h1 l x ih =>
    have h1 := List.pairwise_append.1 h
    rw [sorted_snoc, ih h1.1]
    have h2 : ∀ y ∈ l, lt x y = false := fun y hy => h1.2.2 y hy x (by simp)
    clear ih h h1
    induction l with
    | nil => rfl
    | cons y r ih =>
      unfold ins
      rw [if_neg (by rw [h2 y (by simp)]; simp), ih (fun z hz => h2 z (by simp [hz]))]
      rfl
end

/-! Numbers by what is left of them. -/
def rank (x b : Int) : Int := if b = 0 then 0 else x.tmod b
def ltR (b : Int) (x y : Int) : Bool := decide (rank x b < rank y b)
theorem ltR_order (b : Int) : Order (ltR b) where
  irr := fun a => by simp [ltR]
  trans := fun a c d h1 h2 => by simp only [ltR, decide_eq_true_eq] at *; omega
  alike := fun a c d h => by simp only [ltR, decide_eq_true_eq] at *; omega
end Go.Proofs.Ytaedhccmdbodlaa.Qu
