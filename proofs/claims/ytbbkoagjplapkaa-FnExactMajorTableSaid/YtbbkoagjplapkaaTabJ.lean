/- The program's tableaux: linear extensions, words, descents. -/
import Derived.Test.YtbbkoagjplapkaaTabI
namespace Go.Proofs.Ytbbkoagjplapkaa
open Go.RowKit Go.WideShapes Go.ChangeShapes
set_option linter.unusedVariables false

theorem height_any (x : Value) (a b : Nat) (F : Nat → Nat → Int) (w : World) (h : GridR w x a b F) :
    Calls Try.prog 63 #[x] w fun r w' => r = .returned (.int .i64 (a : Int)) ∧ w = w' := by
  obtain ⟨ab, ao, cv, rfl, -, -⟩ := h
  go_enter Try.func63, Try.ntmps63
  go_wp2
  go_ret
  exact ⟨rfl, rfl⟩
theorem width_any (x : Value) (a b : Nat) (F : Nat → Nat → Int) (w : World) (h : GridR w x a b F) (ha : 0 < a) :
    Calls Try.prog 64 #[x] w fun r w' => r = .returned (.int .i64 (b : Int)) ∧ w = w' := by
  obtain ⟨ab, ao, cv, rfl, hl, hr⟩ := h
  obtain ⟨g, o, c, hc, -, -⟩ := hr 0 ha
  rw [Nat.add_zero] at hc
  have hai : (0 : Int) < (a : Int) := by omega
  clear hr
  go_enter Try.func64, Try.ntmps64
  go_wp2
  go_ret
  exact ⟨rfl, rfl⟩
theorem size_any (x : Value) (a b n : Nat) (F : Nat → Nat → Int) (w : World) (h : GridR w x a b F) (ha : 0 < a) (hn : a * b = n) (hn10 : n ≤ 10) :
    Calls Try.prog 68 #[x] w fun r w' => r = .returned (.int .i64 (n : Int)) ∧ w = w' := by
  have H1 := hid (height_any x a b F w h)
  have H2 := hid (width_any x a b F w h ha)
  have e1 : (a : Int) * (b : Int) = (n : Int) := by rw [← Int.natCast_mul, hn]
  clear h hn
  go_enter Try.func68, Try.ntmps68
  go_wp2_with (first | (go_at_call 63; refine H1.out.mono ?_; rintro e w' ⟨rfl, rfl⟩) | (go_at_call 64; refine H2.out.mono ?_; rintro e w' ⟨rfl, rfl⟩))
  go_ret
  exact ⟨rfl, rfl⟩
theorem at_any (x : Value) (a b r c : Nat) (F : Nat → Nat → Int) (w : World) (h : GridR w x a b F) (hr : r < a) (hc : c < b) :
    Calls Try.prog 66 #[x, .int .i64 (r : Int), .int .i64 (c : Int)] w fun res w' => res = .returned (.int .i64 (F r c)) ∧ w = w' := by
  obtain ⟨ab, ao, cv, rfl, hl, hrow⟩ := h
  obtain ⟨g, o, c', hc1, -, hc2⟩ := hrow r hr
  have hc3 := hc2 c hc
  have hai : (r : Int) < (a : Int) := by omega
  have hbi : (c : Int) < (b : Int) := by omega
  clear hrow hc2
  go_enter Try.func66, Try.ntmps66
  go_wp2
  go_ret
  exact ⟨rfl, rfl⟩
theorem implIsTableau_any (v : Value) (ls : List (List Int)) (w : World) (hv : IntsSS w v ls) (hs : SSmall ls) :
    Calls Try.prog 18 #[v] w fun r w' => r = .returned (.bool (tabB ls)) ∧ Below w.heap.size w w' := by
  have HP := hid (tableauIn_any v ls w hv hs)
  clear hv hs
  go_enter Try.func18, Try.ntmps18
  go_wp2_with fail
  refine HP.out.mono ?_
  rintro e w' ⟨xA, xn, xc, y, rfl, hx, ho, hb⟩
  obtain ⟨yA, yn, yc, rfl⟩ := ho.shape3
  have HB := hid hb
  clear hb hx ho
  go_wp2
  go_ret
  exact ⟨rfl, below_alloc HB.out _⟩
theorem implLinearOf_any (v : Value) (ls : List (List Int)) (w : World) (hv : IntsSS w v ls) (hs : SSmall ls) :
    Calls Try.prog 28 #[v] w fun (r : Ending) w' => ∃ u, r = Ending.returned (.tuple #[u, .bool (tabB ls)]) ∧ OwnI 3 w' w.heap.size u (ansLT ls) ∧ (ansLT ls).length ≤ 1048576 ∧ Below w.heap.size w w' := by
  have HP := hid (tableauIn_any v ls w hv hs)
  have HL := hid (ansLT_length ls)
  clear hv hs
  go_enter Try.func28, Try.ntmps28
  go_wp2_with fail
  refine HP.out.mono ?_
  rintro e w' ⟨xA, xn, xc, y, rfl, hx, ho, hb⟩
  obtain ⟨yA, yn, yc, rfl⟩ := ho.shape3
  have HB := hid hb
  have HO := hid ho
  have h1 := (Blk.new w' 47 #[.slice xA xn xc, .slice yA yn yc]).cell 1
  clear hb hx ho
  go_wp2
  go_ret2
  exact ⟨_, rfl, HO.out.alloc _, HL.out, below_alloc HB.out _⟩

/-! ### rows of numbers -/
structure TB (ti : TypeId) (w0 : World) (t : Nat) (x y : Value) (W : World) : Prop where
  blk : Blk W t ti #[x, y]
  below : Below w0.heap.size w0 W
theorem TB.drew {ti : TypeId} {w0 : World} {t : Nat} {x y : Value} {W : World} (h : TB ti w0 t x y W) : TB ti w0 t x y W.drew := ⟨h.blk, h.below.drew⟩
theorem TB.to {ti : TypeId} {w0 : World} {t : Nat} {x y : Value} {W W' : World} (h : TB ti w0 t x y W) (hb : Below W.heap.size W W') : TB ti w0 t x y W' := ⟨h.blk.below hb h.blk.lt, below_to h.below hb⟩
set_option maxHeartbeats 800000 in
theorem rowOf_any (x : Value) (yA : Option Addr) (yn yc : Nat) (ls : List (List Int)) (k : Nat) (w : World) (hx : GridR w x ls.length (wid ls) (cel ls)) (hy : Ints w (.slice yA yn yc) (linT ls)) (ht : tabB ls = true) (hk : k < ls.length * wid ls) :
    Calls Try.prog 73 #[.agg #[x, .slice yA yn yc], .int .i64 (k : Int)] w fun r w' => r = .returned (.int .i64 (rowK ls k : Nat)) ∧ Below w.heap.size w w' := by
  have hL := (tabB_all ht).1
  have a1 := hL.a1
  have b1 := hL.b1
  have b2 := hL.b2
  have hn10 := hL.n
  obtain ⟨hp1, hp2⟩ := linT_at ht hk
  have hlen := linT_length ls
  have HWid := hid (fun W (hW : Below w.heap.size w W) => width_any x ls.length (wid ls) (cel ls) W (hx.below hW) a1)
  obtain ⟨A, c, hsh, hA⟩ := hy
  injection hsh with e1 e2 e3
  subst e1; subst e3
  rw [hlen] at e2
  obtain ⟨g, o, rfl, hgl, hcells⟩ := hA (by intro h; rw [h] at hlen; simp at hlen; omega)
  have hck := hcells k (by omega)
  rw [hp1] at hck
  have HK : Hid (rowK ls k = wN (linT ls) k / wid ls) := hid rfl
  obtain ⟨p, hp⟩ : ∃ p, wN (linT ls) k = p := ⟨_, rfl⟩
  obtain ⟨b, hb⟩ : ∃ b, wid ls = b := ⟨_, rfl⟩
  obtain ⟨n, hn⟩ : ∃ n, ls.length * b = n := ⟨_, rfl⟩
  obtain ⟨x0, xc0, xl0, xe, -, -⟩ := hx
  subst xe
  rw [hp] at hck hp2 HK
  rw [hb] at hp2 HK b1 b2 hn10 e2 HWid hk
  rw [hn] at hp2 hn10 e2 hk
  subst e2
  obtain ⟨q, hq⟩ : ∃ q, p / b = q := ⟨_, rfl⟩
  rw [hq] at HK
  have e4 : (p : Int) / (b : Int) = (q : Int) := by rw [← Int.natCast_ediv, hq]
  have f1 : (p : Int).tdiv (b : Int) = (q : Int) := by rw [Int.tdiv_eq_ediv_of_nonneg (by omega)]; exact e4
  have hb0 : ((b : Int) == 0) = false := by rw [beq_eq_false_iff_ne]; omega
  have hb3 : ¬ ((b : Int) = 0) := by omega
  have hb4 : ¬ (b = 0) := by omega
  have hq10 : q ≤ 10 := by rw [← hq]; exact Nat.le_trans (Nat.div_le_self _ _) (by omega)
  have w1 : IntKind.i64.wrap (q : Int) = (q : Int) := IntWalk.i64_in _ (by omega)
  have hkn : (k : Int) < (yn : Int) := by omega
  clear hcells hA hp1 hp hb hn hq ht hL hp2 hlen
  go_enter Try.func73, Try.ntmps73
  have z0 := (Blk.new w 47 #[.slice (some ⟨x0, xc0, none⟩) ls.length xl0, .slice (some ⟨g, o, none⟩) yn yc]).cell 0
  have z1 := (Blk.new w 47 #[.slice (some ⟨x0, xc0, none⟩) ls.length xl0, .slice (some ⟨g, o, none⟩) yn yc]).cell 1
  have hck1 := ((Below.refl _ w).alloc (Nat.le_refl _) (.cells #[.slice (some ⟨x0, xc0, none⟩) ls.length xl0, .slice (some ⟨g, o, none⟩) yn yc] 47)).cell (p := ⟨g, o + k, none⟩) hgl
  rw [hck] at hck1
  clear hck
  go_wp2
  go_quiet ((go_at_call 64; exact Calls.quiet_of_same ((HWid.out _ (by first | exact below_alloc (Below.refl _ w) _ | exact below_drewN (below_alloc (Below.refl _ w) _) _)).mono fun _ _ ⟨a, b⟩ => ⟨a, b.symm⟩)))
  go_wp2
  go_ret
  exact ⟨ret_int (by rw [HK.out]), below_drewN (below_alloc (Below.refl _ w) _) _⟩
end Go.Proofs.Ytbbkoagjplapkaa
