/-
  NdMk: A node that is being made, in a box of its own: its row, its lists of their own memory; a key, a value, a kid put behind.
  NodA: node: isKey, isValue, rise, areValues, areKids.
  NodB: node: has, Wide, May, Find, Kid.
-/
import Derived.Test.YtlefkaoibokjdaaPc20
import Derived.Test.YtlefkaoibokjdaaPc12
import Derived.Test.YtlefkaoibokjdaaPc18
import Derived.Test.YtlefkaoibokjdaaPc03
import Derived.Test.YtlefkaoibokjdaaPc16
namespace Go.Proofs.Ytlefkaoibokjdaa
open Go.RowKit
set_option linter.unusedVariables false
def ndC (n : Nd.Node) (Ak : Option Addr) (ck : Nat) (Av : Option Addr) (cv : Nat) (Ai : Option Addr) (ci : Nat) : Array Value :=
  #[.int .u8 (n.kind : Nat), .slice Ak n.keys.length ck, .slice Av n.vals.length cv, .slice Ai n.kids.length ci]
structure NdMk (w : World) (base g : Nat) (n : Nd.Node) (Ak : Option Addr) (ck : Nat) (Av : Option Addr) (cv : Nat) (Ai : Option Addr) (ci : Nat) : Prop where
  row : Rw w g 26 (ndC n Ak ck Av cv Ai ci)
  lo : g < base
  top : base ≤ w.heap.size
  keys : OwnL sK w base (.slice Ak n.keys.length ck) n.keys
  vals : OwnL sK w base (.slice Av n.vals.length cv) n.vals
  kids : OwnL iK w base (.slice Ai n.kids.length ci) n.kids
  apart : ∀ k, (Value.slice Ak n.keys.length ck).ownBlock = some k → (Value.slice Av n.vals.length cv).ownBlock ≠ some k
section
variable {w w3 : World} {base g : Nat} {n : Nd.Node} {Ak Av Ai A3 : Option Addr} {ck cv ci c3 : Nat} {x : ByteArray}
theorem NdMk.cells (h : NdMk w base g n Ak ck Av cv Ai ci) : w.cell? ⟨g, 0, none⟩ = some (.int .u8 (n.kind : Nat)) ∧ w.cell? ⟨g, 1, none⟩ = some (.slice Ak n.keys.length ck) ∧ w.cell? ⟨g, 2, none⟩ = some (.slice Av n.vals.length cv) ∧ w.cell? ⟨g, 3, none⟩ = some (.slice Ai n.kids.length ci) := ⟨h.row.cell 0, h.row.cell 1, h.row.cell 2, h.row.cell 3⟩
theorem NdMk.drewN_ (h : NdMk w base g n Ak ck Av cv Ai ci) (m : Nat) : NdMk (w.drewN m) base g n Ak ck Av cv Ai ci := ⟨h.row, h.lo, h.top, h.keys, h.vals, h.kids, h.apart⟩
/-- A box that is new. -/
theorem NdMk.new {W : World} {kd : Nat} (hW : w.alloc (.cells #[.int .u8 (kd : Nat), .slice none 0 0, .slice none 0 0, .slice none 0 0] 26) = W) : NdMk W W.heap.size w.heap.size ⟨kd, [], [], []⟩ none 0 none 0 none 0 := by
  subst hW
  exact ⟨Rw.new w _ _, by simp, Nat.le_refl _, OwnL.nil_ _ _ _, OwnL.nil_ _ _ _, OwnL.nil_ _ _ _, fun k hk => by cases hk⟩
/-- What a list of a node that grows leaves of the node's row. -/
theorem NdMk.grown_row (h : NdMk w base g n Ak ck Av cv Ai ci) {v : Value} (hv : ∀ k, v.ownBlock = some k → base ≤ k) (hG : w.grownBy w3 v.ownBlock) : Rw w3 g 26 (ndC n Ak ck Av cv Ai ci) :=
  (hG.block g h.row.lt (fun e => by have := hv g e.symm; have := h.lo; omega)).trans h.row
/-- A key is put behind. -/
theorem NdMk.key (h : NdMk w base g n Ak ck Av cv Ai ci) (hA : OwnL sK w3 base (.slice A3 (n.keys.length + 1) c3) (n.keys ++ [x])) (hG : w.grownBy w3 (Value.slice Ak n.keys.length ck).ownBlock) (hM : Moved w (.slice Ak n.keys.length ck) (.slice A3 (n.keys.length + 1) c3)) :
    NdMk (w3.setCell ⟨g, 1, none⟩ (.slice A3 (n.keys.length + 1) c3)) base g ⟨n.kind, n.keys ++ [x], n.vals, n.kids⟩ A3 c3 Av cv Ai ci := by
  have hr := h.grown_row (fun k hk => (h.keys.lt_ k hk).1) hG
  have ho : ∀ k, base ≤ k → (w3.setCell ⟨g, 1, none⟩ (.slice A3 (n.keys.length + 1) c3)).heap[k]? = w3.heap[k]? := fun k hk => heap_setCell_other w3 _ k _ (by have := h.lo; show k ≠ g; omega)
  have hv3 : OwnL sK w3 base (.slice Av n.vals.length cv) n.vals := h.vals.kept_ hG (own_ne_or fun k hk e => h.apart k e hk)
  have hi3 : OwnL iK w3 base (.slice Ai n.kids.length ci) n.kids := h.kids.kept_ hG (own_ne_or fun k hk => own_twoN h.kids h.keys (by decide) hk)
  have el : (n.keys ++ [x]).length = n.keys.length + 1 := by simp
  refine ⟨?_, h.lo, by have := hG.size; have := h.top; simpa using (by omega), ?_, hv3.of_block fun k hk => ho k (hv3.lt_ k hk).1, hi3.of_block fun k hk => ho k (hi3.lt_ k hk).1, ?_⟩
  · have := hr.set 1 (.slice A3 (n.keys.length + 1) c3)
    simpa [ndC] using this
  · rw [el]; exact hA.of_block fun k hk => ho k (hA.lt_ k hk).1
  · intro k hk
    rw [el] at hk
    rcases hM k hk with h1 | h1
    · exact h.apart k h1
    · exact fun e => by have := (h.vals.lt_ k e).2; omega
/-- A value is put behind. -/
theorem NdMk.val (h : NdMk w base g n Ak ck Av cv Ai ci) (hA : OwnL sK w3 base (.slice A3 (n.vals.length + 1) c3) (n.vals ++ [x])) (hG : w.grownBy w3 (Value.slice Av n.vals.length cv).ownBlock) (hM : Moved w (.slice Av n.vals.length cv) (.slice A3 (n.vals.length + 1) c3)) :
    NdMk (w3.setCell ⟨g, 2, none⟩ (.slice A3 (n.vals.length + 1) c3)) base g ⟨n.kind, n.keys, n.vals ++ [x], n.kids⟩ Ak ck A3 c3 Ai ci := by
  have hr := h.grown_row (fun k hk => (h.vals.lt_ k hk).1) hG
  have ho : ∀ k, base ≤ k → (w3.setCell ⟨g, 2, none⟩ (.slice A3 (n.vals.length + 1) c3)).heap[k]? = w3.heap[k]? := fun k hk => heap_setCell_other w3 _ k _ (by have := h.lo; show k ≠ g; omega)
  have hv3 : OwnL sK w3 base (.slice Ak n.keys.length ck) n.keys := h.keys.kept_ hG (own_ne_or fun k hk e => h.apart k hk e)
  have hi3 : OwnL iK w3 base (.slice Ai n.kids.length ci) n.kids := h.kids.kept_ hG (own_ne_or fun k hk => own_twoN h.kids h.vals (by decide) hk)
  have el : (n.vals ++ [x]).length = n.vals.length + 1 := by simp
  refine ⟨?_, h.lo, by have := hG.size; have := h.top; simpa using (by omega), hv3.of_block fun k hk => ho k (hv3.lt_ k hk).1, ?_, hi3.of_block fun k hk => ho k (hi3.lt_ k hk).1, ?_⟩
  · have := hr.set 2 (.slice A3 (n.vals.length + 1) c3)
    simpa [ndC] using this
  · rw [el]; exact hA.of_block fun k hk => ho k (hA.lt_ k hk).1
  · intro k hk e
    rw [el] at e
    rcases hM k e with h1 | h1
    · exact h.apart k hk h1
    · have := (h.keys.lt_ k hk).2; omega
/-- What a list that grows, and a cell of the box that is set, leave of all below the box. -/
theorem grown_below {v : Value} {off : Nat} (hG : w.grownBy w3 v.ownBlock) (hv : ∀ k, v.ownBlock = some k → base ≤ k) (ht : base ≤ w.heap.size) (hl : g < base) (u : Value) : Below g w (w3.setCell ⟨g, off, none⟩ u) :=
  ⟨hG.os, hG.tape, hG.output, by simpa using hG.size, fun k hk => (heap_setCell_other w3 _ k u (by show k ≠ g; omega)).trans (hG.block k (by omega) (fun e => by have := hv k e.symm; omega))⟩
/-- A node that was made is answered. -/
theorem IsNdE.made {fn : Func} {p u : Tmp} {a : Act} {g' : Nat} {r : Nd.Node × Nat} {old : Array Value} {w0 : World} (hf : fn.results = #[.cell p 26, .tmp u]) (ha : a.defers = [])
    (hp : a.tmps.getD p undef = .pointer (some ⟨g', 0, none⟩)) (hu : a.tmps.getD u undef = .int .i64 0) (hg : Rw w g' 26 old) (h : NdMk w base g n Ak ck Av cv Ai ci) (hgb : g' < base) (hk8 : n.kind < 256) (hr : r = (n, 0)) (hb : Below w0.heap.size w0 w) (h0 : w0.heap.size ≤ g') :
    bodyPost Try.prog fn (IsNdE r w0) .ret a (w.setRow g' (ndC n Ak ck Av cv Ai ci)) := by
  subst hr
  have ho : ∀ k, base ≤ k → (w.setRow g' (ndC n Ak ck Av cv Ai ci)).heap[k]? = w.heap[k]? := fun k hk => setRow_other _ _ _ _ (by omega)
  exact bodyPost_ret (results_nd hf _ _ g' (ndC n Ak ck Av cv Ai ci) _ hp hu (by kernel_rfl) (hg.row _)) ha ⟨_, rfl, ⟨Ak, ck, Av, cv, Ai, ci, rfl, hk8, (h.keys.of_block fun k hk => ho k (h.keys.lt_ k hk).1).form_, (h.vals.of_block fun k hk => ho k (h.vals.lt_ k hk).1).form_, (h.kids.of_block fun k hk => ho k (h.kids.lt_ k hk).1).form_⟩, below_setRow hb h0 _⟩
end
end Go.Proofs.Ytlefkaoibokjdaa
namespace Go.Proofs.Ytlefkaoibokjdaa
open Go.RowKit
set_option linter.unusedVariables false
section
variable {w : World}
set_option maxHeartbeats 1000000 in
set_option maxRecDepth 100000 in
theorem pniskey_any (x : ByteArray) (w : World) : Calls Try.prog 52 #[.string x] w (fun e w' => e = .returned (.bool (decide (Nd.KeyOk x))) ∧ w = w') := by
  by_cases h1 : 1 ≤ x.size
  · have h1i : (1 : Int) ≤ (x.size : Int) := by omega
    by_cases h2 : x.size ≤ 40
    · have h2i : (x.size : Int) ≤ 40 := by omega
      have e : decide (Nd.KeyOk x) = true := decide_eq_true ⟨h1, h2⟩
      rw [e]
      clear e h1 h2
      go_enter Try.func52, Try.ntmps52
      go_wp2
      go_ret
      exact ⟨rfl, rfl⟩
    · have h2i : ¬ (x.size : Int) ≤ 40 := by omega
      have e : decide (Nd.KeyOk x) = false := decide_eq_false (fun h => h2 h.2)
      rw [e]
      clear e h1 h2
      go_enter Try.func52, Try.ntmps52
      go_wp2
      go_ret
      exact ⟨rfl, rfl⟩
  · have h1i : ¬ (1 : Int) ≤ (x.size : Int) := by omega
    have e : decide (Nd.KeyOk x) = false := decide_eq_false (fun h => h1 h.1)
    rw [e]
    clear e h1
    go_enter Try.func52, Try.ntmps52
    go_wp2
    go_ret
    exact ⟨rfl, rfl⟩
set_option maxHeartbeats 1000000 in
set_option maxRecDepth 100000 in
theorem pnisvalue_any (x : ByteArray) (w : World) : Calls Try.prog 53 #[.string x] w (fun e w' => e = .returned (.bool (decide (x.size ≤ 40))) ∧ w = w') := by
  have h : ∀ b, decide (x.size ≤ 40) = b → decide ((x.size : Int) ≤ 40) = b := fun b h => by rw [← h]; congr 1; rw [eq_iff_iff]; omega
  obtain ⟨b, hb⟩ : ∃ b, decide (x.size ≤ 40) = b := ⟨_, rfl⟩
  have h2 := h b hb
  rw [hb]
  clear hb h
  go_enter Try.func53, Try.ntmps53
  go_wp2
  go_ret
  exact ⟨rfl, rfl⟩
theorem Nd.below_empty {x : ByteArray} (h : 1 ≤ x.size) : Op.bytesLess (ByteArray.empty).toList x.toList = true := by
  have e : (ByteArray.empty).toList = [] := by decide +kernel
  obtain ⟨l, hl⟩ : ∃ l, x.toList = l := ⟨_, rfl⟩
  have hs : l.length = x.size := by rw [← hl, ByteArray.toList_eq]; rfl
  rw [e, hl]
  cases l with
  | nil => simp at hs; omega
  | cons a l => rfl
set_option maxHeartbeats 1000000 in
set_option maxRecDepth 100000 in
theorem pnrise_any (v : Value) (l : List ByteArray) (B : Nat) (w : World) (hv : Lv sK w B v l) (hB : B ≤ w.heap.size) :
    Calls Try.prog 62 #[v] w (fun e w' => e = .returned (.bool (decide (Nd.KeysOk l))) ∧ w = w') := by
  have HV := Lib.hid hv
  obtain ⟨A, c, rfl, -⟩ := hv
  have hl : l.length ≤ 9223372036854775807 := by have := HV.out.len_; simp only [maxLen] at this; omega
  go_enter Try.func62, Try.ntmps62
  go_wp2
  go_loopw [3, 8] (fun q i wr => ∃ k : Nat, k ≤ l.length ∧ i = .int .i64 k ∧ q = .string (if k = 0 then ByteArray.empty else l.getD (k - 1) ByteArray.empty) ∧ Hid (Nd.KeysOk (l.take k)) ∧ w = wr) (fun _ i _ => l.length - (intOf i).toNat)
  case atStart => exact ⟨0, by omega, rfl, rfl, Nd.keys_nil, rfl⟩
  case round =>
    obtain ⟨k, hk, rfl, rfl, HK, rfl⟩ := hrel
    obtain ⟨y, hy⟩ : ∃ y, (if k = 0 then ByteArray.empty else l.getD (k - 1) ByteArray.empty) = y := ⟨_, rfl⟩
    rw [hy]
    have HY := Lib.hid hy
    clear hy
    by_cases hlt : k < l.length
    · obtain ⟨b1, o1, x, rfl, hb1, hx, hd, hcell⟩ := HV.out.str_ hlt
      have HD := Lib.hid hd
      have CK := Lib.hid (pniskey_any x w)
      have wk : IntKind.i64.wrap ((k : Int) + 1) = (k : Int) + 1 := by rw [IntKind.wrap_i64]; omega
      obtain ⟨bk, hbk⟩ : ∃ b, decide (Nd.KeyOk x) = b := ⟨_, rfl⟩
      rw [hbk] at CK
      have HBK := Lib.hid hbk
      clear hd hx hbk
      cases bk
      · have HF : Hid (decide (Nd.KeysOk l) = false) := decide_eq_false (fun h => absurd (h.at_ HD.out).1 (of_decide_eq_false HBK.out))
        go_wp2_with fail
        refine CK.out.mono ?_
        rintro e1 w1 ⟨rfl, rfl⟩
        clear CK
        go_wp2
        go_ret
        exact ⟨by rw [HF.out]; rfl, rfl⟩
      · have HKO := Lib.hid (of_decide_eq_true HBK.out)
        cases hb : Op.bytesLess y.toList x.toList
        · have HF : Hid (decide (Nd.KeysOk l) = false) := decide_eq_false (fun h => by
            have h2 := HY.out
            by_cases hk0 : k = 0
            · rw [if_pos hk0] at h2
              subst h2
              rw [Nd.below_empty HKO.out.1] at hb
              cases hb
            · rw [if_neg hk0] at h2
              have h3 := (h.at_ HD.out).2 y (by omega) (by rw [← h2, List.getD_eq_getElem?_getD, List.getElem?_eq_getElem (show k - 1 < l.length by omega)]; rfl)
              unfold Nd.bl at h3
              rw [hb] at h3
              cases h3)
          go_wp2_with fail
          refine CK.out.mono ?_
          rintro e1 w1 ⟨rfl, rfl⟩
          clear CK
          go_wp2
          go_ret
          exact ⟨by rw [HF.out]; rfl, rfl⟩
        · have HK2 : Hid (Nd.KeysOk (l.take (k + 1))) := Nd.keys_succ HK.out HD.out HKO.out (fun z hk0 hz => by
            have h2 := HY.out
            rw [if_neg (by omega), List.getD_eq_getElem?_getD, hz] at h2
            have h2 : z = y := h2
            rw [h2]; exact hb)
          have HX : Hid (x = (if k + 1 = 0 then ByteArray.empty else l.getD (k + 1 - 1) ByteArray.empty)) := by
            unfold Hid
            rw [if_neg (by omega), Nat.add_sub_cancel, List.getD_eq_getElem?_getD, HD.out]; rfl
          go_wp2_with fail
          refine CK.out.mono ?_
          rintro e1 w1 ⟨rfl, rfl⟩
          clear CK
          go_wp2
          go_roundw
          case rel => exact ⟨k + 1, by omega, by go_num, by rw [← HX.out], HK2.out, trivial⟩
          case measure => simp [intOf]; omega
    · have ek : k = l.length := by omega
      subst ek
      have HT : Hid (decide (Nd.KeysOk l) = true) := decide_eq_true (by have := HK.out; rwa [List.take_length] at this)
      go_wp2
      go_ret
      exact ⟨by rw [HT.out]; rfl, rfl⟩
set_option maxHeartbeats 1000000 in
set_option maxRecDepth 100000 in
theorem pnarevalues_any (v : Value) (l : List ByteArray) (B : Nat) (w : World) (hv : Lv sK w B v l) (hB : B ≤ w.heap.size) :
    Calls Try.prog 63 #[v] w (fun e w' => e = .returned (.bool (decide (∀ x ∈ l, x.size ≤ 40))) ∧ w = w') := by
  have HV := Lib.hid hv
  obtain ⟨A, c, rfl, -⟩ := hv
  have hl : l.length ≤ 9223372036854775807 := by have := HV.out.len_; simp only [maxLen] at this; omega
  go_enter Try.func63, Try.ntmps63
  go_wp2
  go_loopw [7] (fun i wr => ∃ k : Nat, k ≤ l.length ∧ i = .int .i64 k ∧ Hid (∀ x ∈ l.take k, x.size ≤ 40) ∧ w = wr) (fun i _ => l.length - (intOf i).toNat)
  case atStart => exact ⟨0, by omega, rfl, by unfold Hid; simp, rfl⟩
  case round =>
    obtain ⟨k, hk, rfl, HK, rfl⟩ := hrel
    by_cases hlt : k < l.length
    · obtain ⟨b1, o1, x, rfl, hb1, hx, hd, hcell⟩ := HV.out.str_ hlt
      have HD := Lib.hid hd
      have CK := Lib.hid (pnisvalue_any x w)
      have wk : IntKind.i64.wrap ((k : Int) + 1) = (k : Int) + 1 := by rw [IntKind.wrap_i64]; omega
      obtain ⟨bk, hbk⟩ : ∃ b, decide (x.size ≤ 40) = b := ⟨_, rfl⟩
      rw [hbk] at CK
      have HBK := Lib.hid hbk
      clear hd hx hbk
      cases bk
      · have HF : Hid (decide (∀ x ∈ l, x.size ≤ 40) = false) := decide_eq_false (fun h => absurd (h x (List.mem_of_getElem? HD.out)) (of_decide_eq_false HBK.out))
        go_wp2_with fail
        refine CK.out.mono ?_
        rintro e1 w1 ⟨rfl, rfl⟩
        clear CK
        go_wp2
        go_ret
        exact ⟨by rw [HF.out]; rfl, rfl⟩
      · have HK2 : Hid (∀ x ∈ l.take (k + 1), x.size ≤ 40) := Nd.all_succ HK.out HD.out (of_decide_eq_true HBK.out)
        go_wp2_with fail
        refine CK.out.mono ?_
        rintro e1 w1 ⟨rfl, rfl⟩
        clear CK
        go_wp2
        go_roundw
        case rel => exact ⟨k + 1, by omega, by go_num, HK2.out, trivial⟩
        case measure => simp [intOf]; omega
    · have ek : k = l.length := by omega
      subst ek
      have HT : Hid (decide (∀ x ∈ l, x.size ≤ 40) = true) := decide_eq_true (by have := HK.out; rwa [List.take_length] at this)
      go_wp2
      go_ret
      exact ⟨by rw [HT.out]; rfl, rfl⟩
set_option maxHeartbeats 1000000 in
set_option maxRecDepth 100000 in
theorem pnarekids_any (v : Value) (l : List Int) (B : Nat) (w : World) (hv : Lv iK w B v l) (hB : B ≤ w.heap.size) :
    Calls Try.prog 64 #[v] w (fun e w' => e = .returned (.bool (decide (∀ x ∈ l, 2 ≤ x ∧ x ≤ 65535))) ∧ w = w') := by
  have HV := Lib.hid hv
  obtain ⟨A, c, rfl, -⟩ := hv
  have hl : l.length ≤ 9223372036854775807 := by have := HV.out.len_; simp only [maxLen] at this; omega
  go_enter Try.func64, Try.ntmps64
  go_wp2
  go_loopw [7] (fun i wr => ∃ k : Nat, k ≤ l.length ∧ i = .int .i64 k ∧ Hid (∀ x ∈ l.take k, (2 : Int) ≤ x ∧ x ≤ 65535) ∧ w = wr) (fun i _ => l.length - (intOf i).toNat)
  case atStart => exact ⟨0, by omega, rfl, by unfold Hid; simp, rfl⟩
  case round =>
    obtain ⟨k, hk, rfl, HK, rfl⟩ := hrel
    by_cases hlt : k < l.length
    · obtain ⟨b1, o1, x, rfl, hb1, hx, hd, hcell⟩ := HV.out.int_ hlt
      have HD := Lib.hid hd
      have wk : IntKind.i64.wrap ((k : Int) + 1) = (k : Int) + 1 := by rw [IntKind.wrap_i64]; omega
      clear hd hx
      by_cases hbad : x < 2 ∨ 65535 < x
      · have HF : Hid (decide (∀ x ∈ l, (2 : Int) ≤ x ∧ x ≤ 65535) = false) := decide_eq_false (fun h => by have := h x (List.mem_of_getElem? HD.out); omega)
        have hways : x < 2 ∨ (¬ x < 2 ∧ 65535 < x) := by omega
        clear hbad
        rcases hways with h2 | ⟨h2, h3⟩
        all_goals
          go_wp2
          go_ret
          exact ⟨by rw [HF.out]; rfl, rfl⟩
      · have h2 : ¬ x < 2 := fun h => hbad (.inl h)
        have h3 : ¬ 65535 < x := fun h => hbad (.inr h)
        have HK2 : Hid (∀ x ∈ l.take (k + 1), (2 : Int) ≤ x ∧ x ≤ 65535) := Nd.all_succ HK.out HD.out (by omega)
        clear hbad
        go_wp2
        go_roundw
        case rel => exact ⟨k + 1, by omega, by go_num, HK2.out, trivial⟩
        case measure => simp [intOf]; omega
    · have ek : k = l.length := by omega
      subst ek
      have HT : Hid (decide (∀ x ∈ l, (2 : Int) ≤ x ∧ x ≤ 65535) = true) := decide_eq_true (by have := HK.out; rwa [List.take_length] at this)
      go_wp2
      go_ret
      exact ⟨by rw [HT.out]; rfl, rfl⟩
end
end Go.Proofs.Ytlefkaoibokjdaa
namespace Go.Proofs.Ytlefkaoibokjdaa
open Go.RowKit
set_option linter.unusedVariables false
theorem Nd.has_leaf {n : Nd.Node} {m : Nat} (hk : n.kind = 1) : Nd.Right n m m ↔ (n.keys.length ≤ m ∧ Nd.KeysOk n.keys ∧ n.vals.length = n.keys.length ∧ n.kids.length = 0 ∧ ∀ v ∈ n.vals, v.size ≤ 40) := by
  unfold Nd.Right Nd.Shape
  rw [hk]
  constructor
  · rintro ⟨h1, h2, h3, ⟨_, h4, h5, h6⟩ | ⟨h, _⟩⟩
    · exact ⟨h4, h1, h5, h6, h2⟩
    · cases h
  · rintro ⟨h1, h2, h3, h4, h5⟩
    refine ⟨h2, h5, fun k hk => ?_, .inl ⟨rfl, h1, h3, h4⟩⟩
    rw [List.length_eq_zero_iff.1 h4] at hk; cases hk
theorem Nd.has_inner {n : Nd.Node} {m : Nat} (hk : n.kind = 2) : Nd.Right n m m ↔ (n.keys.length ≤ m ∧ Nd.KeysOk n.keys ∧ 0 < n.keys.length ∧ n.kids.length = n.keys.length + 1 ∧ n.vals.length = 0 ∧ ∀ k ∈ n.kids, 2 ≤ k ∧ k ≤ 65535) := by
  unfold Nd.Right Nd.Shape
  rw [hk]
  constructor
  · rintro ⟨h1, h2, h3, ⟨h, _⟩ | ⟨_, h4, h5, h6, h7⟩⟩
    · cases h
    · exact ⟨h5, h1, h4, h6, h7, h3⟩
  · rintro ⟨h1, h2, h3, h4, h5, h6⟩
    refine ⟨h2, fun v hv => ?_, h6, .inr ⟨rfl, h3, h1, h4, h5⟩⟩
    rw [List.length_eq_zero_iff.1 h5] at hv; cases hv
theorem Nd.has_other {n : Nd.Node} {a b : Nat} (h1 : n.kind ≠ 1) (h2 : n.kind ≠ 2) : ¬ Nd.Right n a b := by
  rintro ⟨_, _, _, ⟨h, _⟩ | ⟨h, _⟩⟩
  · exact h1 h
  · exact h2 h
set_option maxHeartbeats 2000000 in
set_option maxRecDepth 100000 in
theorem pnhas_any (n : Nd.Node) (v : Value) (B : Nat) (w : World) (m : Nat) (hm : m ≤ 100) (hv : NdIs w B v n) (hB : B ≤ w.heap.size) :
    Calls Try.prog 42 #[v, .int .i64 (m : Nat)] w (IsBool (decide (Nd.Right n m m)) w) := by
  obtain ⟨Ak, ck, Av, cv, Ai, ci, W, rfl, hk8, hW, H0, hbW, hs, hn⟩ := hv.open_ hB
  have hBW : B ≤ W.heap.size := by omega
  have HB := Lib.hid hbW
  have CR := Lib.hid (pnrise_any _ _ _ W H0.keys hBW)
  have CV := Lib.hid (pnarevalues_any _ _ _ W H0.vals hBW)
  have CI := Lib.hid (pnarekids_any _ _ _ W H0.kids hBW)
  obtain ⟨rk, hrk⟩ : ∃ b, decide (Nd.KeysOk n.keys) = b := ⟨_, rfl⟩
  obtain ⟨rv, hrv⟩ : ∃ b, decide (∀ x ∈ n.vals, x.size ≤ 40) = b := ⟨_, rfl⟩
  obtain ⟨ri, hri⟩ : ∃ b, decide (∀ x ∈ n.kids, (2 : Int) ≤ x ∧ x ≤ 65535) = b := ⟨_, rfl⟩
  rw [hrk] at CR
  rw [hrv] at CV
  rw [hri] at CI
  obtain ⟨ans, hans⟩ : ∃ b, decide (Nd.Right n m m) = b := ⟨_, rfl⟩
  rw [hans]
  have hl1 : n.keys.length ≤ 9223372036854775807 := by have := H0.keys.len_; simp only [maxLen] at this; omega
  have c0 := H0.c0
  have c1 := H0.c1
  have c2 := H0.c2
  have c3 := H0.c3
  have HAN := Lib.hid hans
  have HR := Lib.hid (And.intro hrk (And.intro hrv hri))
  clear hv hn H0 hbW hBW hans hrk hrv hri hB hs
  unfold ndB at hW
  unfold ndV
  by_cases hlen : n.keys.length ≤ m
  rotate_left
  · have q1 : (m : Int) < (n.keys.length : Int) := by omega
    have e : ans = false := by
      rw [← HAN.out]
      refine decide_eq_false (fun h => ?_)
      rcases h.2.2.2 with ⟨_, h1, _⟩ | ⟨_, _, h1, _⟩ <;> omega
    subst e
    clear hlen c0 c2 c3 CR CV CI
    go_enter Try.func42, Try.ntmps42
    go_wp2
    go_ret
    exact ⟨rfl, HB.out⟩
  have q1 : ¬ (m : Int) < (n.keys.length : Int) := by omega
  have wl : IntKind.i64.wrap ((n.keys.length : Int) + 1) = (n.keys.length : Int) + 1 := by rw [IntKind.wrap_i64]; omega
  cases rk
  · have e : ans = false := by
      rw [← HAN.out]
      exact decide_eq_false (fun h => of_decide_eq_false HR.out.1 h.1)
    subst e
    clear hlen wl c0 c2 c3 CV CI
    go_enter Try.func42, Try.ntmps42
    go_wp2_with fail
    refine CR.out.mono ?_
    rintro e1 w1 ⟨rfl, rfl⟩
    clear CR
    go_wp2
    go_ret
    exact ⟨rfl, HB.out⟩
  by_cases hk1 : n.kind = 1
  · have hr := Nd.has_leaf (m := m) hk1
    have q2 : (((n.kind : Nat) : Int) == 1) = true := by rw [beq_iff_eq]; omega
    have HQ := Lib.hid hr
    have HL := Lib.hid hlen
    have HK := Lib.hid (of_decide_eq_true HR.out.1)
    clear hr hlen hk1
    by_cases h1 : n.vals.length = n.keys.length
    rotate_left
    · have e : ans = false := by
        rw [← HAN.out]; exact decide_eq_false (fun h => h1 (HQ.out.1 h).2.2.1)
      subst e
      have q3 : ((n.vals.length : Int) == (n.keys.length : Int)) = false := by rw [beq_eq_false_iff_ne]; omega
      clear h1 wl CV CI
      go_enter Try.func42, Try.ntmps42
      go_wp2_with fail
      refine CR.out.mono ?_
      rintro e1 w1 ⟨rfl, rfl⟩
      clear CR
      go_wp2
      go_ret
      exact ⟨rfl, HB.out⟩
    have q3 : ((n.vals.length : Int) == (n.keys.length : Int)) = true := by rw [beq_iff_eq]; omega
    by_cases h2 : n.kids.length = 0
    rotate_left
    · have e : ans = false := by
        rw [← HAN.out]; exact decide_eq_false (fun h => h2 (HQ.out.1 h).2.2.2.1)
      subst e
      have q4 : ((n.kids.length : Int) == 0) = false := by rw [beq_eq_false_iff_ne]; omega
      clear h1 h2 wl CV CI
      go_enter Try.func42, Try.ntmps42
      go_wp2_with fail
      refine CR.out.mono ?_
      rintro e1 w1 ⟨rfl, rfl⟩
      clear CR
      go_wp2
      go_ret
      exact ⟨rfl, HB.out⟩
    have q4 : ((n.kids.length : Int) == 0) = true := by rw [beq_iff_eq]; omega
    have e : ans = rv := by
      rw [← HAN.out, ← HR.out.2.1, decide_eq_decide, HQ.out]
      exact ⟨fun h => h.2.2.2.2, fun h => ⟨HL.out, HK.out, h1, h2, h⟩⟩
    subst e
    clear h1 h2 wl CI
    go_enter Try.func42, Try.ntmps42
    go_wp2_with fail
    refine CR.out.mono ?_
    rintro e1 w1 ⟨rfl, rfl⟩
    clear CR
    go_wp2_with fail
    refine CV.out.mono ?_
    rintro e1 w1 ⟨rfl, rfl⟩
    clear CV
    go_wp2
    go_ret
    exact ⟨rfl, HB.out⟩
  by_cases hk2 : n.kind = 2
  · have hr := Nd.has_inner (m := m) hk2
    have q2 : (((n.kind : Nat) : Int) == 1) = false := by rw [beq_eq_false_iff_ne]; omega
    have q2b : (((n.kind : Nat) : Int) == 2) = true := by rw [beq_iff_eq]; omega
    have HQ := Lib.hid hr
    have HL := Lib.hid hlen
    have HK := Lib.hid (of_decide_eq_true HR.out.1)
    clear hr hlen hk1 hk2
    by_cases h1 : 0 < n.keys.length
    rotate_left
    · have e : ans = false := by
        rw [← HAN.out]; exact decide_eq_false (fun h => h1 (HQ.out.1 h).2.2.1)
      subst e
      have q3 : ¬ (0 : Int) < (n.keys.length : Int) := by omega
      clear h1 wl CV CI
      go_enter Try.func42, Try.ntmps42
      go_wp2_with fail
      refine CR.out.mono ?_
      rintro e1 w1 ⟨rfl, rfl⟩
      clear CR
      go_wp2
      go_ret
      exact ⟨rfl, HB.out⟩
    have q3 : (0 : Int) < (n.keys.length : Int) := by omega
    by_cases h2 : n.kids.length = n.keys.length + 1
    rotate_left
    · have e : ans = false := by
        rw [← HAN.out]; exact decide_eq_false (fun h => h2 (HQ.out.1 h).2.2.2.1)
      subst e
      have q4 : ((n.kids.length : Int) == (n.keys.length : Int) + 1) = false := by rw [beq_eq_false_iff_ne]; omega
      clear h1 h2 CV CI
      go_enter Try.func42, Try.ntmps42
      go_wp2_with fail
      refine CR.out.mono ?_
      rintro e1 w1 ⟨rfl, rfl⟩
      clear CR
      go_wp2
      go_ret
      exact ⟨rfl, HB.out⟩
    have q4 : ((n.kids.length : Int) == (n.keys.length : Int) + 1) = true := by rw [beq_iff_eq]; omega
    by_cases h3 : n.vals.length = 0
    rotate_left
    · have e : ans = false := by
        rw [← HAN.out]; exact decide_eq_false (fun h => h3 (HQ.out.1 h).2.2.2.2.1)
      subst e
      have q5 : ((n.vals.length : Int) == 0) = false := by rw [beq_eq_false_iff_ne]; omega
      clear h1 h2 h3 CV CI
      go_enter Try.func42, Try.ntmps42
      go_wp2_with fail
      refine CR.out.mono ?_
      rintro e1 w1 ⟨rfl, rfl⟩
      clear CR
      go_wp2
      go_ret
      exact ⟨rfl, HB.out⟩
    have q5 : ((n.vals.length : Int) == 0) = true := by rw [beq_iff_eq]; omega
    have e : ans = ri := by
      rw [← HAN.out, ← HR.out.2.2, decide_eq_decide, HQ.out]
      exact ⟨fun h => h.2.2.2.2.2, fun h => ⟨HL.out, HK.out, h1, h2, h3, h⟩⟩
    subst e
    clear h1 h2 h3 CV
    go_enter Try.func42, Try.ntmps42
    go_wp2_with fail
    refine CR.out.mono ?_
    rintro e1 w1 ⟨rfl, rfl⟩
    clear CR
    go_wp2_with fail
    refine CI.out.mono ?_
    rintro e1 w1 ⟨rfl, rfl⟩
    clear CI
    go_wp2
    go_ret
    exact ⟨rfl, HB.out⟩
  · have e : ans = false := by
      rw [← HAN.out]; exact decide_eq_false (Nd.has_other hk1 hk2)
    subst e
    have q2 : (((n.kind : Nat) : Int) == 1) = false := by rw [beq_eq_false_iff_ne]; omega
    have q3 : (((n.kind : Nat) : Int) == 2) = false := by rw [beq_eq_false_iff_ne]; omega
    clear hk1 hk2 hlen wl CV CI
    go_enter Try.func42, Try.ntmps42
    go_wp2_with fail
    refine CR.out.mono ?_
    rintro e1 w1 ⟨rfl, rfl⟩
    clear CR
    go_wp2
    go_ret
    exact ⟨rfl, HB.out⟩
end Go.Proofs.Ytlefkaoibokjdaa
