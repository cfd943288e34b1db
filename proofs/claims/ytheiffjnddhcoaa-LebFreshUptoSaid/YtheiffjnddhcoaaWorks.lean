/-
  stooklaw01.works answers true: the four examples of the chapter that it asks.
-/
import Derived.Test.YtheiffjnddhcoaaGet
import Derived.Test.YtheiffjnddhcoaaPut
import Derived.Test.YtheiffjnddhcoaaSame
namespace Go.Proofs.Ytheiffjnddhcoaa
open Go.RowKit
set_option linter.unusedVariables false

theorem OwnB.two_ (w : World) {base : Nat} (hb : base ≤ w.heap.size) {c d : Nat} {x y : Int} (hx : x = (c : Nat)) (hy : y = (d : Nat)) (hc : c < 256) (hd : d < 256) : OwnB (w.alloc (.cells #[.int .u8 x, .int .u8 y] 5)) base (.slice (some ⟨w.heap.size, 0, none⟩) 2 2) [c, d] := by
  subst hx hy
  exact ⟨by simp [hc, hd], by simpa [u8] using World.ownsRow_lit (base := base) (e := 5) (size := 1) w #[.int .u8 (c : Nat), .int .u8 (d : Nat)] 2 hb (by simp [maxLen]) (by simp)⟩

theorem OwnB.Bv_ {w : World} {base B : Nat} {v : Value} {l : List Nat} (h : OwnB w base v l) (hB : w.heap.size ≤ B) : Bv w B v l := h.form_.mono_ hB

theorem same_bv (v v' : Value) (la lb : List Nat) (B B' : Nat) (w : World) (h : Bv w B v la) (h' : Bv w B' v' lb) :
    Calls Try.prog 15 #[v, v'] w (IsBool (decide (la = lb)) w) := by
  obtain ⟨A, c, rfl, h1, h2, h3, h4⟩ := h
  obtain ⟨A', c', rfl, h1', h2', h3', h4'⟩ := h'
  exact same_any A A' la lb c c' B B' w h4 h4' (by omega) (by omega)

theorem put300 : Mt.put 300 = [172, 2] := by decide
theorem got1 : Mt.get [172, 2] 0 = (300, 2, 0) := by decide
theorem got2 : Mt.get [128, 0] 0 = (0, 0, 5) := by decide

theorem put_300 (w : World) : Calls Try.prog 16 #[.int .u64 300] w (IsFresh [172, 2] w) := by
  have h := put_any 300 (by unfold Mt.B64; omega) w
  rw [put300] at h
  exact h
theorem len_300 (w : World) : Calls Try.prog 17 #[.int .u64 300] w (fun e w' => e = .returned (.int .i64 2) ∧ w = w') := by
  have h := len_any 300 (by unfold Mt.B64; omega) w
  rw [put300] at h
  exact h

set_option maxHeartbeats 1000000 in
set_option maxRecDepth 100000 in
theorem works_any (w : World) : Calls Try.prog 18 #[] w (IsBool true w) := by
  have hb1 := (Below.refl w.heap.size w).alloc (Nat.le_refl _) (.cells #[.int .u8 172, .int .u8 2] 5)
  have hs1 := OwnB.two_ w (Nat.le_refl _) (c := 172) (d := 2) (x := 172) (y := 2) rfl rfl (by omega) (by omega)
  have HC1 := Lib.hid (get_any _ _ _ 0 _ (hs1.Bv_ (Nat.le_refl _)))
  have HB := Lib.hid hb1
  clear hb1 hs1
  go_enter Try.func18, Try.ntmps18
  go_wp2_with fail
  ((with_reducible refine HC1.out.mono ?_); rintro e w1 ⟨he, hb1⟩)
  rw [got1] at he
  subst he
  have hb2 := HB.out.trans (hb1.mono (by simp))
  clear HC1 HB hb1
  have hz1 := hb2.size
  have hb3 := hb2.alloc hz1 (.cells #[.int .u8 128, .int .u8 0] 5)
  have hs1 := OwnB.two_ w1 (Nat.le_refl _) (c := 128) (d := 0) (x := 128) (y := 0) rfl rfl (by omega) (by omega)
  have HC1 := Lib.hid (get_any _ _ _ 0 _ (hs1.Bv_ (Nat.le_refl _)))
  have HB := Lib.hid hb3
  clear hb3 hs1 hb2
  go_wp2_with fail
  ((with_reducible refine HC1.out.mono ?_); rintro e w2 ⟨he, hb1⟩)
  rw [got2] at he
  subst he
  have hb2 := HB.out.trans (hb1.mono (by simp; omega))
  clear HC1 HB hb1 hz1
  go_wp2_with fail
  ((with_reducible refine (put_300 _).mono ?_); rintro e w3 ⟨A, c, he, ho, hb1⟩)
  subst he
  have hb3 := hb2.trans (hb1.mono hb2.size)
  have hz3 := hb3.size
  have ho4 := ho.alloc_ (.cells #[.int .u8 172, .int .u8 2] 5)
  have hb4 := hb3.alloc hz3 (.cells #[.int .u8 172, .int .u8 2] 5)
  have hs4 := OwnB.two_ w3 (Nat.le_refl _) (c := 172) (d := 2) (x := 172) (y := 2) rfl rfl (by omega) (by omega)
  have ho5 : OwnB _ _ (.slice A 2 c) [172, 2] := ho4
  have HS := Lib.hid (same_bv _ _ _ _ _ _ _ ho5.form_ hs4.form_)
  have HB := Lib.hid hb4
  clear ho5 ho4 hs4 hb4 hb3 hb2 ho hb1 hz3
  go_wp2_with fail
  ((with_reducible refine HS.out.mono ?_); rintro e w5 ⟨he, hb5⟩)
  subst he
  have hb6 := Lib.hid (HB.out.trans (hb5.mono (by have := HB.out.size; exact this)))
  clear HS HB hb5
  go_wp2_with (go_at_call 17; refine (len_300 _).mono ?_; rintro e w' ⟨rfl, rfl⟩)
  go_ret
  exact ⟨rfl, hb6.out⟩
end Go.Proofs.Ytheiffjnddhcoaa
