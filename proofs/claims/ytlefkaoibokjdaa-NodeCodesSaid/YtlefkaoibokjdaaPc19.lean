/-
  RNdC: stookref18: Wide, May, Same, texts, Copy.
  RNdD: stookref00's Texts and Ints: what they answer, in a world that was drawn from and nothing else; the disk's Same of nodes.
  RNdE: stookref18: Same.
-/
import Derived.Test.YtlefkaoibokjdaaPc18
import Derived.Test.YtlefkaoibokjdaaPc17
namespace Go.Proofs.Ytlefkaoibokjdaa
open Go.RowKit
set_option linter.unusedVariables false

set_option maxHeartbeats 1000000 in
set_option maxRecDepth 100000 in
theorem rwide_any (n : Nd.Node) (v : Value) (B : Nat) (w : World) (hv : NdIs w B v n) (hB : B ≤ w.heap.size) :
    Calls Try.prog 12 #[v] w (IsBool (Nd.wide n) w) := by
  obtain ⟨Ak, ck, Av, cv, Ai, ci, W, rfl, hk8, hW, H0, hbW, hs, hn⟩ := hv.open_ hB
  have HC : Hid (Calls Try.prog 43 #[ndV n Ak ck Av cv Ai ci, .int .i64 12, .int .i64 13] W (IsBool (Nd.rightB n 12 13) W)) := rright_any n 12 13 _ B W hn (by omega) (by decide) (by decide)
  have HbW := Lib.hid hbW
  have HsW := Lib.hid hs
  have hc0 := H0.c0
  have hc1 := H0.c1
  have hc2 := H0.c2
  have hc3 := H0.c3
  clear hv hn H0 hbW hs
  unfold ndV at *
  unfold ndB at hW
  go_enter Try.func12, Try.ntmps12
  go_wp2_with (fail)
  refine (HC.out).mono ?_
  rintro e w1 ⟨rfl, hb⟩
  go_wp2
  go_ret
  exact ⟨rfl, HbW.out.trans (hb.mono (by have := HsW.out; omega))⟩

set_option maxHeartbeats 1000000 in
set_option maxRecDepth 100000 in
theorem rmay_any (n : Nd.Node) (v : Value) (B : Nat) (w : World) (hv : NdIs w B v n) (hB : B ≤ w.heap.size) :
    Calls Try.prog 14 #[v] w (IsBool (Nd.may n) w) := by
  obtain ⟨Ak, ck, Av, cv, Ai, ci, W, rfl, hk8, hW, H0, hbW, hs, hn⟩ := hv.open_ hB
  have HC : Hid (Calls Try.prog 43 #[ndV n Ak ck Av cv Ai ci, .int .i64 6, .int .i64 6] W (IsBool (Nd.rightB n 6 6) W)) := rright_any n 6 6 _ B W hn (by omega) (by decide) (by decide)
  have HbW := Lib.hid hbW
  have HsW := Lib.hid hs
  have hc0 := H0.c0
  have hc1 := H0.c1
  have hc2 := H0.c2
  have hc3 := H0.c3
  clear hv hn H0 hbW hs
  unfold ndV at *
  unfold ndB at hW
  go_enter Try.func14, Try.ntmps14
  go_wp2_with (fail)
  refine (HC.out).mono ?_
  rintro e w1 ⟨rfl, hb⟩
  go_wp2
  go_ret
  exact ⟨rfl, HbW.out.trans (hb.mono (by have := HsW.out; omega))⟩

set_option maxHeartbeats 1000000 in
set_option maxRecDepth 100000 in
theorem rtexts_any (v : Value) (l : List ByteArray) (B : Nat) (w : World) (h : Lv sK w B v l) (hsz : l.length ≤ 8796093022208) :
    Calls Try.prog 49 #[v] w (IsL1 sK l w) := by
  have H0 := Lib.hid h
  obtain ⟨A, c, rfl, _⟩ := h
  have hnil := Lib.hid (OwnL.nil_ sK w w.heap.size)
  go_enter Try.func49, Try.ntmps49
  go_wp2_with (at_builtin; go_must (refine wpList_append_l _ sK rfl _ _ rfl w.heap.size _ rfl [] hnil.out _ rfl _ l H0.out (by show _ * 16 ≤ _; simp; omega) (by simp [maxLen]; omega) (Nat.le_refl _) ?_; intro A3 c3 w1 hA hG))
  go_ret
  simp only [List.nil_append] at hA
  exact ⟨A3, c3, by simp, hA, (Below.refl w.heap.size w).grown hG (Nat.le_refl _) (by intro k hk; cases hk)⟩
end Go.Proofs.Ytlefkaoibokjdaa
namespace Go.Proofs.Ytlefkaoibokjdaa
open Go.RowKit
set_option linter.unusedVariables false
/-- The answer: a yes or no; nothing but draws. -/
def IsBoolD (b : Bool) (w : World) (e : Ending) (w' : World) : Prop := e = .returned (.bool b) ∧ Hid (∃ m, w' = w.drewN m)
theorem drewN_more {w w' : World} (h : Hid (∃ m, w' = w.drewN m)) (n : Nat) : Hid (∃ m, w'.drewN n = w.drewN m) := by
  obtain ⟨m, rfl⟩ := h
  exact ⟨m + n, World.drewN_drewN _ _ _⟩
theorem IsBoolD.quiet_ {b : Bool} {w w' : World} {e : Ending} (h : IsBoolD b w e w') : e = .returned (.bool b) ∧ ∃ m, w' = w.drewN m := h
set_option maxHeartbeats 400000 in
theorem textsD_ne (A A' : Option Addr) (la lb : List ByteArray) (c c' : Nat) (w : World) (hlen : la.length ≤ maxLen) (hlen' : lb.length ≤ maxLen) (hne : la.length ≠ lb.length) :
    Calls Try.prog 47 #[.slice A la.length c, .slice A' lb.length c'] w (IsBoolD false w) := by
  unfold maxLen at hlen hlen'
  have hq : (((la.length : Nat) : Int) != ((lb.length : Nat) : Int)) = true := by rw [bne_iff_ne]; omega
  go_enter Try.func47, Try.ntmps47
  go_wp2
  go_ret
  exact ⟨rfl, ⟨0, rfl⟩⟩

set_option maxHeartbeats 400000 in
theorem textsD_eq (A A' : Option Addr) (la lb : List ByteArray) (c c' B B' : Nat) (w : World) (ha : Lv sK w B (.slice A la.length c) la) (hb : Lv sK w B' (.slice A' lb.length c') lb) (heq : la.length = lb.length) :
    Calls Try.prog 47 #[.slice A la.length c, .slice A' lb.length c'] w (IsBoolD (decide (la = lb)) w) := by
  have hlen : la.length ≤ 9223372036854775807 := by have := ha.len_; simp only [maxLen] at this; omega
  have hq : (((la.length : Nat) : Int) != ((lb.length : Nat) : Int)) = false := by rw [heq]; simp
  have HE := Lib.hid heq
  have hle : la.length ≤ lb.length := by omega
  have hge : lb.length ≤ la.length := by omega
  clear heq
  go_enter Try.func47, Try.ntmps47
  go_wp2
  go_loopw [5] (fun i wr => ∃ k : Nat, k ≤ la.length ∧ i = .int .i64 k ∧ Hid (la.take k = lb.take k) ∧ Hid (∃ m, wr = w.drewN m) ∧ Hid (Lv sK wr B (.slice A la.length c) la) ∧ Hid (Lv sK wr B' (.slice A' lb.length c') lb)) (fun i _ => la.length - (intOf i).toNat)
  case atStart => exact ⟨0, by omega, rfl, by simp [Hid], ⟨0, rfl⟩, ha, hb⟩
  case round =>
    obtain ⟨k, hk, rfl, HT, hbel, HA, HB⟩ := hrel
    by_cases hlt : k < la.length
    · obtain ⟨b1, o1, x, rfl, hb1, hx, hd, hcell⟩ := HA.out.str_ hlt
      obtain ⟨b2, o2, y, rfl, hb2, hy, hd', hcell'⟩ := HB.out.str_ (k := k) (by omega)
      have HS := Lib.hid (take_both HT.out hd hd')
      clear hd hd' ha hb hx hy
      have hlt' : k < lb.length := by omega
      by_cases hxy : x = y
      · subst hxy
        have hq2 : (x.toList == x.toList) = true := by simp
        go_wp2
        go_quiet (fail)
        go_wp2
        go_roundw
        case rel => exact ⟨k + 1, by omega, by go_num, HS.out.2 (by simp), drewN_more hbel _, HA.out, HB.out⟩
        case measure => simp [intOf]; omega
      · have hq2 : (x.toList == y.toList) = false := by rw [beq_eq_false_iff_ne]; exact fun e => hxy (str_inj e)
        go_wp2
        go_quiet (fail)
        go_wp2
        go_ret
        have hne : la ≠ lb := take_unlike (fun e => hxy (HS.out.1 e))
        exact ⟨by simp [hne], drewN_more hbel _⟩
    · go_wp2
      go_ret
      have h1 : la = lb := take_whole HT.out (by omega) (by omega)
      exact ⟨by simp [h1], hbel⟩

theorem textsD_lv (v v' : Value) (la lb : List ByteArray) (B B' : Nat) (w : World) (h : Lv sK w B v la) (h' : Lv sK w B' v' lb) :
    Calls Try.prog 47 #[v, v'] w (IsBoolD (decide (la = lb)) w) := by
  have k := h
  have k' := h'
  obtain ⟨A, c, rfl, h1, h2, _⟩ := h
  obtain ⟨A', c', rfl, h1', h2', _⟩ := h'
  by_cases he : la.length = lb.length
  · exact textsD_eq A A' la lb c c' B B' w k k' he
  · have hne : la ≠ lb := fun e => he (by rw [e])
    have := textsD_ne A A' la lb c c' w (by omega) (by omega) he
    simpa [hne] using this
set_option maxHeartbeats 400000 in
theorem intsD_ne (A A' : Option Addr) (la lb : List Int) (c c' : Nat) (w : World) (hlen : la.length ≤ maxLen) (hlen' : lb.length ≤ maxLen) (hne : la.length ≠ lb.length) :
    Calls Try.prog 48 #[.slice A la.length c, .slice A' lb.length c'] w (IsBoolD false w) := by
  unfold maxLen at hlen hlen'
  have hq : (((la.length : Nat) : Int) != ((lb.length : Nat) : Int)) = true := by rw [bne_iff_ne]; omega
  go_enter Try.func48, Try.ntmps48
  go_wp2
  go_ret
  exact ⟨rfl, ⟨0, rfl⟩⟩

set_option maxHeartbeats 400000 in
theorem intsD_eq (A A' : Option Addr) (la lb : List Int) (c c' B B' : Nat) (w : World) (ha : Lv iK w B (.slice A la.length c) la) (hb : Lv iK w B' (.slice A' lb.length c') lb) (heq : la.length = lb.length) :
    Calls Try.prog 48 #[.slice A la.length c, .slice A' lb.length c'] w (IsBoolD (decide (la = lb)) w) := by
  have hlen : la.length ≤ 9223372036854775807 := by have := ha.len_; simp only [maxLen] at this; omega
  have hq : (((la.length : Nat) : Int) != ((lb.length : Nat) : Int)) = false := by rw [heq]; simp
  have HE := Lib.hid heq
  have hle : la.length ≤ lb.length := by omega
  have hge : lb.length ≤ la.length := by omega
  clear heq
  go_enter Try.func48, Try.ntmps48
  go_wp2
  go_loopw [5] (fun i wr => ∃ k : Nat, k ≤ la.length ∧ i = .int .i64 k ∧ Hid (la.take k = lb.take k) ∧ Hid (∃ m, wr = w.drewN m) ∧ Hid (Lv iK wr B (.slice A la.length c) la) ∧ Hid (Lv iK wr B' (.slice A' lb.length c') lb)) (fun i _ => la.length - (intOf i).toNat)
  case atStart => exact ⟨0, by omega, rfl, by simp [Hid], ⟨0, rfl⟩, ha, hb⟩
  case round =>
    obtain ⟨k, hk, rfl, HT, hbel, HA, HB⟩ := hrel
    by_cases hlt : k < la.length
    · obtain ⟨b1, o1, x, rfl, hb1, hx, hd, hcell⟩ := HA.out.int_ hlt
      obtain ⟨b2, o2, y, rfl, hb2, hy, hd', hcell'⟩ := HB.out.int_ (k := k) (by omega)
      have HS := Lib.hid (take_both HT.out hd hd')
      clear hd hd' ha hb hx hy
      have hlt' : k < lb.length := by omega
      by_cases hxy : x = y
      · subst hxy
        have hq2 : ((x : Int) != (x : Int)) = false := by simp
        go_wp2
        go_quiet (fail)
        go_wp2
        go_roundw
        case rel => exact ⟨k + 1, by omega, by go_num, HS.out.2 (by simp), drewN_more hbel _, HA.out, HB.out⟩
        case measure => simp [intOf]; omega
      · have hq2 : ((x : Int) != (y : Int)) = true := by rw [bne_iff_ne]; omega
        go_wp2
        go_quiet (fail)
        go_wp2
        go_ret
        have hne : la ≠ lb := take_unlike (fun e => hxy (HS.out.1 e))
        exact ⟨by simp [hne], drewN_more hbel _⟩
    · go_wp2
      go_ret
      have h1 : la = lb := take_whole HT.out (by omega) (by omega)
      exact ⟨by simp [h1], hbel⟩

theorem intsD_lv (v v' : Value) (la lb : List Int) (B B' : Nat) (w : World) (h : Lv iK w B v la) (h' : Lv iK w B' v' lb) :
    Calls Try.prog 48 #[v, v'] w (IsBoolD (decide (la = lb)) w) := by
  have k := h
  have k' := h'
  obtain ⟨A, c, rfl, h1, h2, _⟩ := h
  obtain ⟨A', c', rfl, h1', h2', _⟩ := h'
  by_cases he : la.length = lb.length
  · exact intsD_eq A A' la lb c c' B B' w k k' he
  · have hne : la ≠ lb := fun e => he (by rw [e])
    have := intsD_ne A A' la lb c c' w (by omega) (by omega) he
    simpa [hne] using this

theorem node_eq (a b : Nd.Node) : a = b ↔ a.kind = b.kind ∧ a.keys = b.keys ∧ a.vals = b.vals ∧ a.kids = b.kids := by
  cases a; cases b; simp
instance : DecidableEq Nd.Node := fun a b => decidable_of_iff _ (node_eq a b).symm
end Go.Proofs.Ytlefkaoibokjdaa
namespace Go.Proofs.Ytlefkaoibokjdaa
open Go.RowKit
set_option linter.unusedVariables false

theorem IsBoolD.more {b : Bool} {w w' : World} {m : Nat} {e : Ending} (h : IsBoolD b (w.drewN m) e w') : e = .returned (.bool b) ∧ ∃ k, w' = w.drewN k := by
  obtain ⟨h1, k, rfl⟩ := h
  exact ⟨h1, m + k, World.drewN_drewN _ _ _⟩

theorem NdAt.textsD {w : World} {sa sb B B' : Nat} {a b : Nd.Node} {Ak Av Ai Ck Cv Ci : Option Addr} {ck cv ci dk dv di : Nat} (h : NdAt w sa B a Ak ck Av cv Ai ci) (h' : NdAt w sb B' b Ck dk Cv dv Ci di) :
    (∀ m, Calls Try.prog 47 #[.slice Ak a.keys.length ck, .slice Ck b.keys.length dk] (w.drewN m) (fun e w' => e = .returned (.bool (decide (a.keys = b.keys))) ∧ ∃ k, w' = w.drewN k)) ∧
    (∀ m, Calls Try.prog 47 #[.slice Av a.vals.length cv, .slice Cv b.vals.length dv] (w.drewN m) (fun e w' => e = .returned (.bool (decide (a.vals = b.vals))) ∧ ∃ k, w' = w.drewN k)) ∧
    (∀ m, Calls Try.prog 48 #[.slice Ai a.kids.length ci, .slice Ci b.kids.length di] (w.drewN m) (fun e w' => e = .returned (.bool (decide (a.kids = b.kids))) ∧ ∃ k, w' = w.drewN k)) :=
  ⟨fun m => (textsD_lv _ _ _ _ B B' _ (h.keys.drewN_ m) (h'.keys.drewN_ m)).mono fun _ _ h => h.more, fun m => (textsD_lv _ _ _ _ B B' _ (h.vals.drewN_ m) (h'.vals.drewN_ m)).mono fun _ _ h => h.more, fun m => (intsD_lv _ _ _ _ B B' _ (h.kids.drewN_ m) (h'.kids.drewN_ m)).mono fun _ _ h => h.more⟩

set_option maxHeartbeats 400000 in
set_option maxRecDepth 100000 in
theorem rsame_any (a b : Nd.Node) (v v' : Value) (B : Nat) (w : World) (hv : NdIs w B v a) (hv' : NdIs w B v' b) (hB : B ≤ w.heap.size) :
    Calls Try.prog 19 #[v, v'] w (IsBool (decide (a = b)) w) := by
  obtain ⟨Ak, ck, Av, cv, Ai, ci, W, rfl, hk8, hW, H0, hbW, hs, hn⟩ := hv.open_ hB
  obtain ⟨Ck, dk, Cv, dv, Ci, di, W2, rfl, hk8', hW2, H0', hbW2, hs2, hn2⟩ := (hv'.below_ hbW hB).open_ (w := W) (by omega)
  have HA := H0.below_ hbW2 (by omega) (by omega)
  have HbW := Lib.hid (hbW.trans (hbW2.mono (by omega)))
  obtain ⟨hT, hV, hI⟩ := HA.textsD H0'
  have HT := Lib.hid hT
  have HV := Lib.hid hV
  have HI := Lib.hid hI
  clear hT hV hI
  have c0 := HA.c0
  have c1 := HA.c1
  have c2 := HA.c2
  have c3 := HA.c3
  have d0 := H0'.c0
  have d1 := H0'.c1
  have d2 := H0'.c2
  have d3 := H0'.c3
  rw [hs] at d0 d1 d2 d3
  clear hv hv' hn hn2 HA H0 H0' hbW hbW2 hs2
  unfold ndV at *
  unfold ndB at hW hW2
  have HN : Hid (decide (a = b) = (decide (a.kind = b.kind) && decide (a.keys = b.keys) && decide (a.vals = b.vals) && decide (a.kids = b.kids))) := by
    unfold Hid
    rw [Bool.eq_iff_iff]
    simp only [Bool.and_eq_true, decide_eq_true_eq]
    rw [node_eq]
    simp only [and_assoc]
  by_cases h0 : a.kind = b.kind
  · have h0i : (((a.kind : Nat) : Int) == ((b.kind : Nat) : Int)) = true := by rw [beq_iff_eq]; omega
    by_cases h1 : a.keys = b.keys
    · rw [decide_eq_true h1] at HT
      by_cases h2 : a.vals = b.vals
      · rw [decide_eq_true h2] at HV
        obtain ⟨b3, h3⟩ : ∃ q, decide (a.kids = b.kids) = q := ⟨_, rfl⟩
        rw [h3] at HI
        have HX : Hid (decide (a = b) = b3) := by unfold Hid; rw [HN.out, decide_eq_true h0, decide_eq_true h1, decide_eq_true h2, h3]; rfl
        clear h0 h1 h2 h3 HN
        go_enter Try.func19, Try.ntmps19
        go_wp2_with (fail)
        refine (HT.out 0).mono ?_
        rintro e w1 ⟨rfl, k1, rfl⟩
        go_wp2_with (fail)
        refine (HV.out k1).mono ?_
        rintro e w1 ⟨rfl, k2, rfl⟩
        go_wp2_with (fail)
        refine (HI.out k2).mono ?_
        rintro e w1 ⟨rfl, k3, rfl⟩
        go_wp2
        go_ret
        exact ⟨by rw [HX.out]; rfl, below_drewN HbW.out _⟩
      · rw [decide_eq_false h2] at HV
        have HX : Hid (decide (a = b) = false) := by unfold Hid; rw [HN.out, decide_eq_false h2]; simp
        clear HN h0 h1 h2
        go_enter Try.func19, Try.ntmps19
        go_wp2_with (fail)
        refine (HT.out 0).mono ?_
        rintro e w1 ⟨rfl, k1, rfl⟩
        go_wp2_with (fail)
        refine (HV.out k1).mono ?_
        rintro e w1 ⟨rfl, k2, rfl⟩
        go_wp2
        go_ret
        exact ⟨by rw [HX.out]; rfl, below_drewN HbW.out _⟩
    · rw [decide_eq_false h1] at HT
      have HX : Hid (decide (a = b) = false) := by unfold Hid; rw [HN.out, decide_eq_false h1]; simp
      clear HN h0 h1
      go_enter Try.func19, Try.ntmps19
      go_wp2_with (fail)
      refine (HT.out 0).mono ?_
      rintro e w1 ⟨rfl, k1, rfl⟩
      go_wp2
      go_ret
      exact ⟨by rw [HX.out]; rfl, below_drewN HbW.out _⟩
  · have h0i : (((a.kind : Nat) : Int) == ((b.kind : Nat) : Int)) = false := by rw [beq_eq_false_iff_ne]; omega
    have HX : Hid (decide (a = b) = false) := by unfold Hid; rw [HN.out, decide_eq_false h0]; simp
    clear HN h0
    go_enter Try.func19, Try.ntmps19
    go_wp2
    go_ret
    exact ⟨by rw [HX.out]; rfl, HbW.out⟩
end Go.Proofs.Ytlefkaoibokjdaa
