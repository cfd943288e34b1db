/-
  FrameN: From what a row says of its arguments to the words of this text: numbers alone (a program that has no slices of bytes).
  Get: leb.Get answers what reading a number tells.
  HeldL: A region that draws its order, by hand: a condition on the world holds behind each operation ahead of one for which, and all behind it, all that read wait (a store into what was read).
-/
import Derived.Test.YtoefogmjekcbeaaRows
import Derived.Test.YtoefogmjekcbeaaPk01
import Derived.ProofKit
import Derived.OpenShut
import Derived.ShutString
import Derived.ChangeOld
import Derived.Below
import Derived.Test.YtoefogmjekcbeaaProg
import Derived.Deep.RegionHeld
import Derived.StillTail
namespace Go.Proofs.Ytoefogmjekcbeaa
open Go.ChangeShapes Go.WideShapes Go.ChangeAt Go.RowKit
open Go.ChangeMaps (open_string shut_string)
set_option linter.unusedVariables false

theorem own : ownKnob Try.prog.godebug = none := by kernel_rfl
theorem laidOut : laidOutB Try.prog = true := by kernel_rfl

theorem u64_nat {a : Int} (h : (Lit.int .u64 a).wf = true) : ∃ n : Nat, a = (n : Int) ∧ Mt.B64 n := by
  have hb := bounds_u64 h
  obtain ⟨n, rfl⟩ := Int.eq_ofNat_of_zero_le hb.1
  exact ⟨n, rfl, by unfold Mt.B64; omega⟩
theorem u8_nat {a : Int} (h : (Lit.int .u8 a).wf = true) : ∃ n : Nat, a = (n : Int) ∧ n < 256 := by
  have hb := bounds_u8 h
  obtain ⟨n, rfl⟩ := Int.eq_ofNat_of_zero_le hb.1
  exact ⟨n, rfl, by omega⟩
end Go.Proofs.Ytoefogmjekcbeaa
namespace Go.Proofs.Ytoefogmjekcbeaa
open Go.RowKit
set_option linter.unusedVariables false

/-- A call that answers these three numbers, and turns nothing that was there. -/
def IsGot (r : Nat × Nat × Nat) (w : World) (e : Ending) (w' : World) : Prop :=
  e = .returned (.tuple #[.int .u64 r.1, .int .i64 r.2.1, .int .i64 r.2.2]) ∧ Below w.heap.size w w'

theorem IsGot.of {w w' : World} {r : Nat × Nat × Nat} {n k e : Nat} (h : r = (n, k, e)) (hb : Below w.heap.size w w') : IsGot r w (.returned (.tuple #[.int .u64 (n : Nat), .int .i64 (k : Nat), .int .i64 (e : Nat)])) w' := by
  subst h; exact ⟨rfl, hb⟩

set_option maxHeartbeats 400000 in
theorem get_arg (A : Option Addr) (l : List Nat) (cap : Nat) (a : Int) (w : World) (hlen : l.length ≤ maxLen) (h : a < 0 ∨ (l.length : Int) < a) :
    Calls Try.prog 38 #[.slice A l.length cap, .int .i64 a] w (IsGot (Mt.get l a) w) := by
  have HR := Lib.hid (Mt.get_arg h)
  unfold maxLen at hlen
  by_cases h1 : a < 0
  · clear h
    go_enter Try.func38, Try.ntmps38
    go_wp2
    go_step3
    go_wp2
    rw [Exit.noGoto_ret]
    go_ret3
    exact IsGot.of HR.out (Below.refl _ _)
  · have h2 : (l.length : Int) < a := by omega
    clear h
    go_enter Try.func38, Try.ntmps38
    go_wp2
    go_step3
    go_wp2
    rw [Exit.noGoto_ret]
    go_ret3
    exact IsGot.of HR.out (Below.refl _ _)

set_option maxHeartbeats 400000 in
theorem get_end (A : Option Addr) (l : List Nat) (cap : Nat) (w : World) (hlen : l.length ≤ cap) (hcap : cap ≤ maxLen) :
    Calls Try.prog 38 #[.slice A l.length cap, .int .i64 l.length] w (IsGot (Mt.get l l.length) w) := by
  have HR := Lib.hid (Mt.get_err (l := l) (a := l.length) (e := 4) (by omega) (by simp [Mt.rd_nil]) (by decide))
  unfold maxLen at hcap
  by_cases hc : cap = l.length
  · subst hc
    go_enter Try.func38, Try.ntmps38
    go_wp2
    go_step3
    go_wp2
    go_step3
    go_wp2
    refine wp_loop_rounds 1 ?_
    rw [rounds_succ]
    go_wp2
    rw [Exit.noGoto_ret]
    go_ret3
    exact IsGot.of HR.out (Below.refl _ _)
  · go_enter Try.func38, Try.ntmps38
    go_wp2
    go_step3
    go_wp2
    go_step3
    go_wp2
    refine wp_loop_rounds 1 ?_
    rw [rounds_succ]
    go_wp2
    rw [Exit.noGoto_ret]
    go_ret3
    exact IsGot.of HR.out (Below.refl _ _)

set_option maxHeartbeats 2000000 in
set_option maxRecDepth 100000 in
theorem get_some (l : List Nat) (cap b off B a : Nat) (w : World) (hlen : l.length ≤ cap) (hcap : cap ≤ maxLen) (ha : a < l.length) (hl : Bts w B (some ⟨b, off, none⟩) l) :
    Calls Try.prog 38 #[.slice (some ⟨b, off, none⟩) l.length cap, .int .i64 a] w (IsGot (Mt.get l a) w) := by
  have hle : a ≤ l.length := by omega
  unfold maxLen at hcap
  have hne : ¬ cap = a := by omega
  obtain ⟨_, _, e0, _, hcell⟩ := hl.2 (by omega)
  injection e0 with e0
  injection e0 with e1 e2
  subst e1 e2
  have hlt := hl.1
  have HC := Lib.hid hcell
  have HL := Lib.hid hlt
  clear hcell hlt hl
  go_enter Try.func38, Try.ntmps38
  go_wp2
  go_step3
  go_wp2
  go_step3
  go_wp2
  go_loop [4, 7, 22] (fun x z i => ∃ (k X : Nat), k ≤ 9 ∧ a + k ≤ l.length ∧ i = .int .i64 k ∧ z = .int .i64 0 ∧ x = .int .u64 X ∧ Hid (X < 128 ^ k) ∧ Hid (Mt.rd 0 0 (l.drop a) = Mt.rd k X (l.drop (a + k)))) (fun _ _ i => l.length - (intOf i).toNat)
  case atStart => exact ⟨0, 0, by omega, by omega, rfl, rfl, rfl, by simp [Hid], rfl⟩
  case round =>
    obtain ⟨k, X, hk9, hk, rfl, rfl, rfl, HX, HR⟩ := hrel
    by_cases hin : a + k < l.length
    · have hd := List.drop_eq_getElem_cons hin
      have hcell := HC.out (a + k) _ (List.getElem?_eq_getElem hin)
      have hc := HL.out _ (List.getElem_mem hin)
      generalize hcc : l[a + k] = c at hd hcell hc
      have HD : Hid (Mt.rd 0 0 (l.drop a) = Mt.rd k X (c :: l.drop (a + k + 1))) := by unfold Hid; rw [HR.out, hd]
      rw [← Nat.add_assoc] at hcell
      have hkin : k < l.length - a := by omega
      clear hcc hd HR HC HL
      by_cases h1 : k = 9 ∧ 1 < c
      · have HE := Lib.hid (HD.out.trans (Mt.rd_form (.inl h1)))
        obtain ⟨rfl, h1c⟩ := h1
        clear HD HX
        go_wp2
        go_ret3
        exact IsGot.of (Mt.get_err hle HE.out (by decide)) (Below.refl _ _)
      · by_cases h2 : 0 < k ∧ c = 0
        · have HE := Lib.hid (HD.out.trans (Mt.rd_form (.inr h2)))
          obtain ⟨h2k, rfl⟩ := h2
          clear HD HX
          by_cases h9 : k = 9
          · subst h9
            go_wp2
            go_ret3
            exact IsGot.of (Mt.get_err hle HE.out (by decide)) (Below.refl _ _)
          · go_wp2
            go_ret3
            exact IsGot.of (Mt.get_err hle HE.out (by decide)) (Below.refl _ _)
        · by_cases h3 : c < 128
          · have HE := Lib.hid (HD.out.trans (Mt.rd_last (by omega) h3))
            clear HD
            by_cases h9 : 8 < k
            · have h1c : c < 2 := by omega
              have hc0 : 0 < c := by omega
              have HV := Lib.hid (or_step k X c hk9 HX.out hc (by omega))
              clear h1 h2
              go_wp2
              go_ret3
              rw [HV.out, Nat.mod_eq_of_lt h3]
              obtain rfl : k = 9 := by omega
              exact IsGot.of (Mt.get_ok hle HE.out) (Below.refl _ _)
            · have h9' : k < 9 := by omega
              have HV := Lib.hid (or_step k X c hk9 HX.out hc (by omega))
              by_cases hk0 : k < 1
              · clear h1 h2 h9
                go_wp2
                go_ret3
                rw [HV.out, Nat.mod_eq_of_lt h3]
                exact IsGot.of (Mt.get_ok hle HE.out) (Below.refl _ _)
              · have hc0 : 0 < c := by omega
                have hk0' : 0 < k := by omega
                clear h1 h2 hk0 h9
                go_wp2
                go_ret3
                rw [HV.out, Nat.mod_eq_of_lt h3]
                exact IsGot.of (Mt.get_ok hle HE.out) (Below.refl _ _)
          · have h9 : k < 9 := by omega
            have HE := Lib.hid (HD.out.trans (Mt.rd_on h1 (by omega)))
            have HV := Lib.hid (or_step k X c hk9 HX.out hc (by omega))
            have HX2 := Lib.hid (Mt.step_lt (c := c) HX.out)
            clear HD h1 h2 HX
            go_wp2
            all_goals
              refine ⟨⟨_, _, _, _, _, _, _, ?rel, rfl, rfl, rfl, rfl, rfl, rfl, rfl⟩, ?measure⟩
              case rel => exact ⟨k + 1, by omega, by omega, by go_num, rfl, X + c % 128 * 128 ^ k, by rw [HV.out], HX2.out, HE.out⟩
              case measure => simp [intOf]; omega
    · have hk0 : a + k = l.length := by omega
      have HE : Hid (Mt.rd 0 0 (l.drop a) = (0, 0, 4)) := by unfold Hid; rw [HR.out, hk0]; simp [Mt.rd_nil]
      have hkk : l.length - a ≤ k := by omega
      clear HR HC HL HX hk0
      go_wp2
      go_ret3
      exact IsGot.of (Mt.get_err hle HE.out (by decide)) (Below.refl _ _)

theorem get_any (v : Value) (l : List Nat) (B : Nat) (a : Int) (w : World) (h : Bv w B v l) :
    Calls Try.prog 38 #[v, .int .i64 a] w (IsGot (Mt.get l a) w) := by
  obtain ⟨A, c, rfl, h1, h2, h3, h4⟩ := h
  by_cases ha : a < 0 ∨ (l.length : Int) < a
  · exact get_arg A l c a w (by omega) ha
  · obtain ⟨k, rfl⟩ := Int.eq_ofNat_of_zero_le (show 0 ≤ a by omega)
    by_cases hk : k = l.length
    · subst hk
      exact get_end A l c w h1 h2
    · have hlt : k < l.length := by omega
      obtain ⟨b, off, rfl, _⟩ := h4.2 (by omega)
      exact get_some l c b off B k w h1 h2 hlt h4
end Go.Proofs.Ytoefogmjekcbeaa
namespace Go.Proofs.Ytoefogmjekcbeaa
set_option linter.unusedVariables false
section
variable {P : Program} {ops : Array Oper} {Q : Exit → Act → World → Prop} {md : Region.Mode} {S : World → Prop} {L : Nat}
/-- What has come up is closed: all that it waits for has come up. -/
def Closed (md : Region.Mode) (ops : Array Oper) (listed : Array Bool) : Prop := ∀ (j : Nat) (oj : Oper), ops[j]? = some oj → listed.getD j false = true → ∀ e ∈ oj.after, Region.binds md e = true → listed.getD e.on false = true
def closedB (md : Region.Mode) (ops : Array Oper) (listed : Array Bool) : Bool := (List.range ops.size).all fun j => !(listed.getD j false) || (match ops[j]? with | some oj => oj.after.all fun e => !(Region.binds md e) || listed.getD e.on false | none => true)
theorem closed_of {listed : Array Bool} (h : closedB md ops listed = true) : Closed md ops listed := fun j oj hj hl e he hb => by
  have hs : j < ops.size := (Array.getElem?_eq_some_iff.1 hj).1
  have h1 := (List.all_eq_true.1 h) j (List.mem_range.2 hs)
  simp only [hl, hj, Bool.not_true, Bool.false_or] at h1
  have h2 := (Array.all_eq_true_iff_forall_mem.1 h1) e he
  simpa [hb] using h2
/-- Number j waits for number i, by way of others. -/
def reachB (md : Region.Mode) (ops : Array Oper) : Nat → Nat → Nat → Bool
  | 0, _, _ => false
  | n + 1, j, i => Region.waitsFor md ops j i || (List.range ops.size).any fun m => Region.waitsFor md ops j m && reachB md ops n m i
theorem reach_listed {listed : Array Bool} (hc : Closed md ops listed) : ∀ (n j i : Nat), reachB md ops n j i = true → (∀ oj, ops[j]? = some oj → ∀ e ∈ oj.after, Region.binds md e = true → listed.getD e.on false = true) → listed.getD i false = true
  | 0, _, _, h, _ => by cases h
  | n + 1, j, i, h, hj => by
    simp only [reachB, Bool.or_eq_true] at h
    rcases h with h | h
    · obtain ⟨oj, ho, e, he, hb, heq⟩ := Region.waitsFor_spec h
      rw [← heq]
      exact hj oj ho e he hb
    · obtain ⟨m, _, hm⟩ := List.any_eq_true.1 h
      simp only [Bool.and_eq_true] at hm
      obtain ⟨oj, ho, e, he, hb, heq⟩ := Region.waitsFor_spec hm.1
      have hl : listed.getD m false = true := by rw [← heq]; exact hj oj ho e he hb
      exact reach_listed hc n m i hm.2 (fun om hom e he hb => hc m om hom hl e he hb)
/-- Whatever order is picked, S holds behind every operation ahead of number L. -/
def wpAnyM (P : Program) (md : Region.Mode) (ops : Array Oper) (Q : Exit → Act → World → Prop) (S : World → Prop) (L : Nat) : Nat → Array Bool → Act → World → Prop
  | 0, listed, a, w => Region.ready md ops listed = [] ∧ Q .normal a w
  | fuel + 1, listed, a, w =>
    (Region.ready md ops listed = [] → Q .normal a w) ∧
    ∀ i ∈ Region.ready md ops listed, wpOp P ops Q i (fun a' w' => (L ≤ i ∨ S w') ∧ wpAnyM P md ops Q S L fuel (listed.setIfInBounds i true) a' w') a w
theorem wpAny_of_m : ∀ (fuel : Nat) (listed : Array Bool) (a : Act) (w : World), wpAnyM P md ops Q S L fuel listed a w → wpAny P md ops Q fuel listed a w
  | 0, _, _, _, h => h
  | fuel + 1, _, _, _, h => ⟨h.1, fun i hi => wpOp_mono (fun a' w' h' => wpAny_of_m fuel _ a' w' h'.2) (h.2 i hi)⟩
theorem getD_flip {listed : Array Bool} {i : Nat} (h : listed.getD i false = true) : listed.getD i true = true := by
  rcases Nat.lt_or_ge i listed.size with h' | h'
  · simp [h'] at h ⊢; exact h
  · simp [Array.getElem?_eq_none h']
theorem closed_set {listed : Array Bool} {j : Nat} (hc : Closed md ops listed) (hj : j ∈ Region.ready md ops listed) : Closed md ops (listed.setIfInBounds j true) := fun k ok hk hl e he hb => by
  have up : ∀ m, listed.getD m false = true → (listed.setIfInBounds j true).getD m false = true := fun m hm => by
    rcases Nat.lt_or_ge m listed.size with h' | h'
    · simp only [Array.getD_eq_getD_getElem?, Array.getElem?_setIfInBounds] at hm ⊢
      by_cases hjm : j = m
      · subst hjm; simp [h']
      · simp only [hjm, if_false]; exact hm
    · simp [Array.getElem?_eq_none h'] at hm
  obtain ⟨hjun, oj, hoj, hall⟩ := mem_ready.1 hj
  by_cases hkj : k = j
  · subst hkj
    rw [hoj] at hk
    injection hk with hk
    subst hk
    exact up _ (hall e he hb)
  · refine up _ (hc k ok hk ?_ e he hb)
    simp only [Array.getD_eq_getD_getElem?, Array.getElem?_setIfInBounds, Ne.symm hkj, if_false] at hl ⊢
    exact hl
theorem wpAnyM_first {i : Nat} {oi : Oper} {v : Value} (hi : ops[i]? = some oi) (hsel : ∀ (j : Nat) (o : Oper) cs b, ops[j]? = some o → o.op ≠ .select cs b)
    (hQ : ∀ c a w, Q (.panic c) (a.put oi.dst v) w → Q (.panic c) a w) (hL : ∀ j, L ≤ j → j < ops.size → reachB md ops 40 j i = true) :
    ∀ (fuel : Nat) (listed : Array Bool) (a : Act) (w : World), Closed md ops listed →
      (∀ j oj, ops[j]? = some oj → j ≠ i → listed.getD j true = false → (∀ e ∈ oj.after, Region.binds md e = true → e.on ≠ i) → oi.apart ops oj = true) →
      i ∈ Region.ready md ops listed → YieldsIf P ops S oi v a → S w →
      wpAnyM P md ops Q S L fuel (listed.setIfInBounds i true) (a.put oi.dst v) w → wpAnyM P md ops Q S L (fuel + 1) listed a w := by
  intro fuel
  induction fuel with
  | zero =>
    intro listed a w _ _ hr hy hS H
    refine ⟨fun h => (by rw [h] at hr; cases hr), fun j hj => ?_⟩
    by_cases hji : j = i
    · subst hji; exact hy.wpOp hi hS ⟨.inr hS, H⟩
    · have := ready_mono hj hji
      rw [H.1] at this
      cases this
  | succ fuel ih =>
    intro listed a w hcl hfree hr hy hS H
    refine ⟨fun h => (by rw [h] at hr; cases hr), fun j hj => ?_⟩
    by_cases hji : j = i
    · subst hji; exact hy.wpOp hi hS ⟨.inr hS, H⟩
    · have h1 := H.2 j (ready_mono hj hji)
      obtain ⟨hjun, oj, hoj, hall⟩ := mem_ready.1 hj
      have hun := (mem_ready.1 hr).1
      have hnot : ∀ e ∈ oj.after, Region.binds md e = true → e.on ≠ i := fun e he hb heq => by
        have h1 := getD_flip (hall e he hb)
        rw [heq, hun] at h1
        cases h1
      have hjL : ¬ L ≤ j := fun hLj => by
        have hjs : j < ops.size := (Array.getElem?_eq_some_iff.1 hoj).1
        have hl := getD_flip (reach_listed hcl 40 j i (hL j hLj hjs) (fun o ho e he hb => by rw [hoj] at ho; injection ho with ho; subst ho; exact hall e he hb))
        rw [hun] at hl
        cases hl
      have h2 := wpOp_putIf hoj (hfree j oj hoj hji hjun hnot) (fun cs b => hsel i oi cs b hi) (fun cs b => hsel j oj cs b hoj) hQ hy h1
      have hfree' : ∀ k ok, ops[k]? = some ok → k ≠ i → (listed.setIfInBounds j true).getD k true = false →
          (∀ e ∈ ok.after, Region.binds md e = true → e.on ≠ i) → oi.apart ops ok = true := fun k ok hk hki hun hno => by
        refine hfree k ok hk hki ?_ hno
        by_cases hjk : j = k
        · subst hjk; exact hjun
        · rw [getD_set_ne true hjk] at hun; exact hun
      refine wpOp_mono (fun a' w' h3 => ?_) h2
      have hS' : S w' := h3.2.1.resolve_left hjL
      refine ⟨.inr hS', ih (listed.setIfInBounds j true) a' w' (closed_set hcl hj) hfree' (ready_mono hr (Ne.symm hji)) h3.1 hS' ?_⟩
      rw [Array.setIfInBounds_comm _ _ hji]
      exact h3.2.2
/-- Take number i first: number L, and all behind it, wait for it. -/
theorem wpAnyM_take {i : Nat} {oi : Oper} {v : Value} {fuel : Nat} {listed : Array Bool} {a : Act} {w : World} (hi : ops[i]? = some oi)
    (hs : Region.noSelect ops = true) (hf : Region.free md ops listed i = true) (hr : (Region.ready md ops listed).contains i = true) (hL : (closedB md ops listed && (List.range ops.size).all fun j => decide (j < L) || reachB md ops 40 j i) = true)
    (hQ : ∀ c a w, Q (.panic c) (a.put oi.dst v) w → Q (.panic c) a w) (hS : S w) (hy : YieldsIf P ops S oi v a)
    (h : wpAnyM P md ops Q S L fuel (listed.setIfInBounds i true) (a.put oi.dst v) w) : wpAnyM P md ops Q S L (fuel + 1) listed a w := by
  simp only [Bool.and_eq_true] at hL
  refine wpAnyM_first hi (Region.noSelect_spec hs) hQ (fun j hj hjs => ?_) fuel listed a w (closed_of hL.1) (Region.free_spec hi hf) (by simpa using hr) hy hS h
  have := (List.all_eq_true.1 hL.2) j (List.mem_range.2 hjs)
  simp only [Bool.or_eq_true, decide_eq_true_eq] at this
  exact this.resolve_left (by omega)
/-- One operation alone comes up next. -/
theorem wpAnyM_next {fuel : Nat} {listed : Array Bool} {a : Act} {w : World} {i : Nat} {o : Oper} (hr : Region.ready md ops listed = [i]) (ho : ops[i]? = some o)
    (h : ∀ K' : Act → World → Prop, Shut (∀ a w, (L ≤ i ∨ S w) → wpAnyM P md ops Q S L fuel (listed.setIfInBounds i true) a w → K' a w) → if Region.wanted o (yielded ops a.tmps) = true then Oper.wp P o a w K' Q else K' (a.put o.dst undef) w) :
    wpAnyM P md ops Q S L (fuel + 1) listed a w := by
  refine ⟨fun h0 => (by rw [hr] at h0; cases h0), fun j hj => ?_⟩
  rw [hr] at hj
  obtain rfl : j = i := by simpa using hj
  exact wpOp_step ho (fun K' hK => h K' (fun a w hS hW => hK a w ⟨hS, hW⟩))
theorem wpAnyM_done {listed : Array Bool} {a : Act} {w : World} (hr : Region.ready md ops listed = []) (h : Q .normal a w) : ∀ fuel, wpAnyM P md ops Q S L fuel listed a w
  | 0 => ⟨hr, h⟩
  | _ + 1 => ⟨fun _ => h, by rw [hr]; simp⟩
theorem wp_region_m {id : Nat} {a : Act} {w : World} (S : World → Prop) (L : Nat) (hm : P.follows .mixedOrders = true)
    (h : wpAnyM P .any ops Q S L ops.size (Array.replicate ops.size false) a w.drew) : (Code.region id ops true).wp P Q a w :=
  wp_region_any hm (wpAny_of_m _ _ _ _ h)
end
end Go.Proofs.Ytoefogmjekcbeaa
