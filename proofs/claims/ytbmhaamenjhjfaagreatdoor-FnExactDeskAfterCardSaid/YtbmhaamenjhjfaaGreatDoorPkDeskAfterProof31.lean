/- Texts DskV, DskM, DskW, one behind the other. -/
import Derived.Deep.RegionWith
import Derived.Test.YtbmhaamenjhjfaaGreatDoorPkDeskAfterProof07
import Derived.Test.YtbmhaamenjhjfaaGreatDoorPkDeskAfterProof12
import Derived.Test.YtbmhaamenjhjfaaGreatDoorPkDeskAfterProof19
import Derived.Test.YtbmhaamenjhjfaaGreatDoorPkDeskAfterProof20
import Derived.Test.YtbmhaamenjhjfaaGreatDoorPkDeskAfterProof24
import Derived.Test.YtbmhaamenjhjfaaGreatDoorPkDeskAfterProof29
import Derived.Test.YtbmhaamenjhjfaaGreatDoorPkDeskAfterProof30
/- DeskLine, RunScript and DeskAfter of the program. (by genfn.py) -/
namespace Go.Proofs.YtbmhaamenjhjfaaGreatDoor
open Go.RowKit Go.WideShapes Go.ChangeShapes
set_option linter.unusedVariables false
theorem implDeskAfter_any (l : List UInt8) (w : World) {a0 a1 : Addr} (hG : GlobD w a0 a1) (hs : l.length ≤ 1048576) :
    Calls Tryz.prog 20 #[.string (sB l)] w fun (r : Ending) w' => ∃ u, r = Ending.returned (.tuple #[.agg #[u, .int .i64 (daS l)], .bool (okSc l)]) ∧ OwnI 3 w' w.heap.size u (daX l) ∧ (daX l).length ≤ 1048576 ∧ Below w.heap.size w w' := by
  have HG := hid hG
  have HZ := hid (Blk.new w 30 #[.slice none 0 0, .int .i64 0])
  have HB0 := hid (below_alloc (Below.refl _ w) (.cells #[.slice none 0 0, .int .i64 0] 30))
  have HNo := hid (da_no (l := l))
  have HYes := hid (da_yes (l := l))
  have HL := hid (daX_len l)
  clear hG
  go_enter Tryz.func20, Tryz.ntmps20
  go_wp2_with fail
  refine (runLines_any l _ (HG.out.later HB0.out) hs).mono ?_
  rintro e w1 ⟨hr, hb⟩
  have HZ1 := hid (HZ.out.below hb (by simp))
  have HB1 := hid (below_to HB0.out hb)
  have hz1 : w.heap.size < w1.heap.size := HZ1.out.lt
  have hbz : (w.alloc (.cells #[.slice none 0 0, .int .i64 0] 30)).heap.size = w.heap.size + 1 := by simp
  rw [hbz] at hr
  have hex : ∃ u ov, e = .returned (.tuple #[.agg #[u, .int .i64 (daS l)], ov, .bool (okSc l)]) ∧ OwnI 3 w1 (w.heap.size + 1) u (daX l) := by
    rcases hr with ⟨hok, rfl⟩ | ⟨hok, u, ov, rfl, ho, -⟩
    · exact ⟨.slice none 0 0, .slice none 0 0, by rw [hok, (HNo.out hok).2], by rw [(HNo.out hok).1]; exact OwnI.nil _ _ _⟩
    · exact ⟨u, ov, by rw [hok, (HYes.out hok).2], by rw [(HYes.out hok).1]; exact ho⟩
  obtain ⟨u, ov, rfl, ho⟩ := hex
  have HO := hid ho
  obtain ⟨uA, un, uc, rfl⟩ := ho.shape3
  clear hr ho hb HZ HB0 HNo HYes hbz
  obtain ⟨S, hS⟩ : ∃ S, daS l = S := ⟨_, rfl⟩
  obtain ⟨b, hbk⟩ : ∃ b, okSc l = b := ⟨_, rfl⟩
  rw [hS, hbk]
  have HS := hid hS
  have HBk := hid hbk
  clear hS hbk
  have HZ2 := hid (HZ1.out.alloc (.cells #[.slice uA un uc, .int .i64 S] 30))
  have HK := hid (Blk.new w1 30 #[.slice uA un uc, .int .i64 S])
  have HB2 := hid (below_alloc HB1.out (.cells #[.slice uA un uc, .int .i64 S] 30))
  have HO2 := hid (OwnI.below HO.out (below_alloc (Below.refl _ w1) (.cells #[.slice uA un uc, .int .i64 S] 30)))
  go_upto_region 2 with (fail)
  generalize w1.alloc (.cells #[.slice uA un uc, .int .i64 S] 30) = W at HZ2 HK HB2 HO2 ⊢
  have z0 : W.cell? ⟨w.heap.size, 0, none⟩ = some (.slice none 0 0) := HZ2.out.cell 0
  have z1 : W.cell? ⟨w.heap.size, 1, none⟩ = some (.int .i64 0) := HZ2.out.cell 1
  have y0 := HZ2.out.frozen 0
  have y1 := HZ2.out.frozen 1
  have k0 : W.cell? ⟨w1.heap.size, 0, none⟩ = some (.slice uA un uc) := HK.out.cell 0
  have k1 : W.cell? ⟨w1.heap.size, 1, none⟩ = some (.int .i64 S) := HK.out.cell 1
  go_wp2
  refine bodyPost_ret (v := .tuple #[.agg #[.slice uA un uc, .int .i64 S], .bool b]) (by simp [results, Tryz.results20, go_sem, z0, z1]) rfl ⟨_, by rw [HS.out, HBk.out], ?_, HL.out, ?_⟩
  · exact (own_setX (own_setX HO2.out (Nat.lt_succ_self _) 0 _) (Nat.lt_succ_self _) 1 _).mono (by omega)
  · exact below_put2 HB2.out _ (Nat.le_refl _) _ _
theorem StrOwn.monoB {ts : TypeId} {w : World} {B B' : Nat} {v : Value} {ls : List (List UInt8)} (h : StrOwn ts w B v ls) (hB : B' ≤ B) : StrOwn ts w B' v ls := by
  obtain ⟨h1, h2⟩ := h
  refine ⟨h1, ?_⟩
  rcases h2 with h2 | ⟨g, cap, cur, rfl, hb, r⟩
  · exact .inl h2
  · exact .inr ⟨g, cap, cur, rfl, Nat.le_trans hB hb, r⟩
structure DZ (w W : World) (dv : Value) (s : Int) : Prop where
  k0 : Blk W w.heap.size 30 #[dv, .int .i64 s]
  k1 : Blk W (w.heap.size + 1) 30 #[.slice none 0 0, .int .i64 0]
  bel : Below w.heap.size w W
theorem DZ.below {w W W' : World} {dv : Value} {s : Int} (H : DZ w W dv s) (hb : Below W.heap.size W W') : DZ w W' dv s := ⟨H.k0.below hb H.k0.lt, H.k1.below hb H.k1.lt, below_to H.bel hb⟩
theorem DZ.new (w : World) (dv : Value) (s : Int) : DZ w ((w.alloc (.cells #[dv, .int .i64 s] 30)).alloc (.cells #[.slice none 0 0, .int .i64 0] 30)) dv s :=
  ⟨(Blk.new w _ _).alloc _, Blk.newAt _ _ _ _ (by simp), below_alloc (below_alloc (Below.refl _ _) _) _⟩
structure DY (w W : World) (dv : Value) (s : Int) (h : Nat) (d0 d1 o0 o1 : Value) : Prop where
  z : DZ w W dv s
  k2 : Blk W h 30 #[d0, d1]
  k3 : Blk W (h + 1) 60 #[o0, o1]
  hh : w.heap.size + 2 ≤ h
theorem DY.below {w W W' : World} {dv : Value} {s : Int} {h : Nat} {d0 d1 o0 o1 : Value} (H : DY w W dv s h d0 d1 o0 o1) (hb : Below W.heap.size W W') : DY w W' dv s h d0 d1 o0 o1 := ⟨H.z.below hb, H.k2.below hb H.k2.lt, H.k3.below hb H.k3.lt, H.hh⟩
theorem DY.new {w W : World} {dv : Value} {s : Int} (H : DZ w W dv s) (d0 d1 o0 o1 : Value) : DY w ((W.alloc (.cells #[d0, d1] 30)).alloc (.cells #[o0, o1] 60)) dv s W.heap.size d0 d1 o0 o1 :=
  ⟨(H.below (below_alloc (Below.refl _ W) _)).below (below_alloc (Below.refl _ _) _), (Blk.new W _ _).alloc _, Blk.newAt _ _ _ _ (by simp), H.k1.lt⟩
theorem DY.put {w W : World} {dv : Value} {s : Int} {h : Nat} {d0 d1 o0 o1 : Value} (H : DY w W dv s h d0 d1 o0 o1) (y : Value) : DY w (W.setCell ⟨h, 0, none⟩ y) dv s h y d1 o0 o1 := by
  have := H.hh
  exact ⟨⟨(Below.heap_setCell W ⟨h, 0, none⟩ y _ (by simp only; omega)).trans H.z.k0, (Below.heap_setCell W ⟨h, 0, none⟩ y _ (by simp only; omega)).trans H.z.k1, H.z.bel.setCell (p := ⟨h, 0, none⟩) (by show w.heap.size ≤ h; omega) y⟩, H.k2.set_ 0 y, (Below.heap_setCell W ⟨h, 0, none⟩ y _ (by simp only; omega)).trans H.k3, this⟩
end Go.Proofs.YtbmhaamenjhjfaaGreatDoor

/- The model's console: coText, coShape. (by gendm.py) -/
namespace Go.Proofs.YtbmhaamenjhjfaaGreatDoor
open Go.RowKit Go.WideShapes Go.ChangeShapes
set_option linter.unusedVariables false
theorem coText_any (v : Value) (ls : List Int) (w : World) (hv : Ints w v ls) (hl : ls.length ≤ 2000) (hx : ∀ j, j < ls.length → 0 ≤ ls.getD j 0 ∧ ls.getD j 0 ≤ 1000000) :
    Calls Tryz.prog 87 #[v] w fun r w' => r = .returned (.string (sB (lisT ls))) ∧ Below w.heap.size w w' := by
  have HV := hid hv
  have HX := hid hx
  have HL := hid (fun k (hk : k ≤ ls.length) => lisN_length (ls := ls) (fun j hj => by have := (hx j hj).2; omega) k hk)
  have HE : Hid (Value.string { data := #[] } = Value.string (sB [])) := hid rfl
  obtain ⟨A, c, rfl, -⟩ := hv
  obtain ⟨n, hn⟩ : ∃ n, ls.length = n := ⟨_, rfl⟩
  have HN := hid hn
  rw [hn] at hl HV HL ⊢
  clear hx hn
  go_enter Tryz.func87, Tryz.ntmps87
  go_wp2
  go_loopw [3, 8] (fun s i wr => ∃ (k : Nat) (l : List UInt8), k ≤ n ∧ s = .string (sB l) ∧ i = .int .i64 k ∧ Hid (lisN ls k = l) ∧ Below w.heap.size w wr) (fun _ i _ => n - (intOf i).toNat)
  case atStart => exact ⟨0, [], Nat.zero_le _, HE.out, rfl, hid rfl, Below.refl _ _⟩
  case round =>
    obtain ⟨k, l, hk, rfl, rfl, HLs, hb⟩ := hrel
    have HB := hid hb
    have hwz := hb.size
    have hll : l.length ≤ 28000 := by
      have := HL.out k hk
      rw [HLs.out] at this; omega
    clear hb
    by_cases hkl : k < n
    · obtain ⟨x, hx⟩ : ∃ x, ls.getD k 0 = x := ⟨_, rfl⟩
      have h01 := HX.out k (by rw [HN.out]; exact hkl)
      have HIk := hid (HV.out.below HB.out)
      obtain ⟨A', c', eA, hA'⟩ := HIk.out
      injection eA with e1 e2 e3
      subst e1
      obtain ⟨bA, oA, rfl, -, hcc⟩ := hA' (by intro h0; have := HN.out; rw [h0] at this; simp at this; omega)
      have hck := hcc k (by rw [HN.out]; exact hkl)
      rw [hx] at hck h01
      obtain ⟨h0, h1⟩ := h01
      have hnl := numT_length (x := x) (by omega)
      have HS : Hid (lisN ls (k + 1) = (if k = 0 then [] else l ++ [44]) ++ numT x) := hid (by rw [lisN, HLs.out, hx])
      clear hx hA' hcc e2 e3
      by_cases hk0 : 0 < k
      · have hk0' : (0 : Int) < (k : Int) := by omega
        obtain ⟨L1, hL1⟩ : ∃ L1, l ++ [44] = L1 := ⟨_, rfl⟩
        have hL1l : L1.length ≤ 28001 := by rw [← hL1]; simp; omega
        obtain ⟨L4, hL4⟩ : ∃ L4, L1 ++ numT x = L4 := ⟨_, rfl⟩
        have hadd0 := fun W => run_sBc l 44 (by omega) W
        have Hadd3 := hid (fun W => run_sB L1 (numT x) (by omega) W)
        rw [hL4] at Hadd3
        rw [hL1] at hadd0
        have HS2 : Hid (lisN ls (k + 1) = L4) := hid (by rw [HS.out, if_neg (by omega), hL1, hL4])
        clear hL1 hL4
        go_wp2_with fail
        clear hck hadd0
        refine (l1NumT_any x _ h0 (by omega)).mono ?_
        rintro e w3 ⟨rfl, hb3⟩
        have hadd3 := Hadd3.out
        have HB3 := hid (below_to HB.out hb3)
        clear hb3
        go_wp2
        go_roundw
        case rel => exact ⟨k + 1, L4, by omega, rfl, by go_num, HS2, HB3.out⟩
        case measure => simp [intOf] <;> omega
      · have hk0' : ¬ (0 : Int) < (k : Int) := by omega
        have hl0 : l = [] := by
          have := HLs.out
          rw [show k = 0 by omega] at this
          exact this.symm
        obtain ⟨L4, hL4⟩ : ∃ L4, l ++ numT x = L4 := ⟨_, rfl⟩
        have Hadd3 := hid (fun W => run_sB l (numT x) (by omega) W)
        rw [hL4] at Hadd3
        have HS2 : Hid (lisN ls (k + 1) = L4) := hid (by rw [HS.out, if_pos (by omega), ← hL4, hl0])
        clear hL4 hl0
        go_wp2_with fail
        clear hck
        refine (l1NumT_any x _ h0 (by omega)).mono ?_
        rintro e w3 ⟨rfl, hb3⟩
        have hadd3 := Hadd3.out
        have HB3 := hid (below_to HB.out hb3)
        clear hb3
        go_wp2
        go_roundw
        case rel => exact ⟨k + 1, L4, by omega, rfl, by go_num, HS2, HB3.out⟩
        case measure => simp [intOf] <;> omega
    · obtain rfl : k = n := by omega
      have HT : Hid (lisT ls = l) := hid (by rw [← HLs.out]; unfold lisT; rw [HN.out])
      go_wp2
      go_ret
      exact ⟨ret_s (by rw [HT.out]), HB.out⟩
def shD (c : Nat) : List UInt8 := if c = 0 then [63] else (ksD c).map fun k => if k = 0 then 110 else 112
theorem name_at (c : Nat) {w0 l : List UInt8} (h : w0 = nmD c) (e : nmD c = l) : (sB w0).toList = l := by rw [sB_toList, h, e]
theorem name_not {w0 : List UInt8} {c : Nat} (h : w0 ≠ nmD c) {l : List UInt8} (e : nmD c = l) : ((sB w0).toList == l) = false := by
  rw [sB_toList]; exact beq_eq_false_iff_ne.2 (by rw [← e]; exact h)
set_option maxRecDepth 100000 in
theorem coShape_no (w0 : List UInt8) (w : World) (h1 : ((sB w0).toList == [112, 111, 115, 101, 116]) = false) (h2 : ((sB w0).toList == [114, 101, 99, 116, 97, 110, 103, 108, 101]) = false) (h3 : ((sB w0).toList == [115, 116, 97, 105, 114, 115]) = false) (h4 : ((sB w0).toList == [102, 101, 110, 99, 101]) = false) (h5 : ((sB w0).toList == [100, 117, 97, 108]) = false) (h6 : ((sB w0).toList == [116, 97, 107, 101]) = false) (h7 : ((sB w0).toList == [116, 111, 103, 103, 108, 101]) = false) (h8 : ((sB w0).toList == [114, 111, 119]) = false) (h9 : ((sB w0).toList == [98, 97, 99, 107]) = false) (h10 : ((sB w0).toList == [116, 105, 109, 101, 115]) = false) (h11 : ((sB w0).toList == [118, 97, 99, 117, 97, 116, 101]) = false) (h12 : ((sB w0).toList == [103, 121, 114, 97, 116, 101]) = false) (h13 : ((sB w0).toList == [115, 104, 111, 119]) = false) (h14 : ((sB w0).toList == [105, 100, 101, 97, 108]) = false) (h15 : ((sB w0).toList == [115, 105, 122, 101]) = false) (h16 : ((sB w0).toList == [111, 114, 98, 105, 116]) = false) (h17 : ((sB w0).toList == [105, 100, 101, 97, 108, 115]) = false) (h18 : ((sB w0).toList == [111, 114, 100, 101, 114, 115]) = false) (h19 : ((sB w0).toList == [108, 101, 110, 103, 116, 104, 115]) = false) (h20 : ((sB w0).toList == [109, 101, 97, 110]) = false) (h21 : ((sB w0).toList == [101, 118, 101, 110]) = false) :
    Calls Tryz.prog 68 #[.string (sB w0)] w fun r w' => r = .returned (.string { data := #[63] }) ∧ w' = w := by
  go_enter Tryz.func68, Tryz.ntmps68
  go_wp2
  go_ret
  exact ⟨rfl, rfl⟩
theorem coShape_1 (F : ByteArray) (w : World) (h : F.toList = [112, 111, 115, 101, 116]) :
    Calls Tryz.prog 68 #[.string F] w fun r w' => r = .returned (.string { data := #[112] }) ∧ w' = w := by
  go_enter Tryz.func68, Tryz.ntmps68
  go_wp2
  go_ret
  exact ⟨rfl, rfl⟩
theorem coShape_2 (F : ByteArray) (w : World) (h : F.toList = [114, 101, 99, 116, 97, 110, 103, 108, 101]) :
    Calls Tryz.prog 68 #[.string F] w fun r w' => r = .returned (.string { data := #[110, 110] }) ∧ w' = w := by
  go_enter Tryz.func68, Tryz.ntmps68
  go_wp2
  go_ret
  exact ⟨rfl, rfl⟩
theorem coShape_3 (F : ByteArray) (w : World) (h : F.toList = [115, 116, 97, 105, 114, 115]) :
    Calls Tryz.prog 68 #[.string F] w fun r w' => r = .returned (.string { data := #[110] }) ∧ w' = w := by
  go_enter Tryz.func68, Tryz.ntmps68
  go_wp2
  go_ret
  exact ⟨rfl, rfl⟩
theorem coShape_4 (F : ByteArray) (w : World) (h : F.toList = [102, 101, 110, 99, 101]) :
    Calls Tryz.prog 68 #[.string F] w fun r w' => r = .returned (.string { data := #[110] }) ∧ w' = w := by
  go_enter Tryz.func68, Tryz.ntmps68
  go_wp2
  go_ret
  exact ⟨rfl, rfl⟩
theorem coShape_5 (F : ByteArray) (w : World) (h : F.toList = [100, 117, 97, 108]) :
    Calls Tryz.prog 68 #[.string F] w fun r w' => r = .returned (.string { data := #[] }) ∧ w' = w := by
  go_enter Tryz.func68, Tryz.ntmps68
  go_wp2
  go_ret
  exact ⟨rfl, rfl⟩
theorem coShape_6 (F : ByteArray) (w : World) (h : F.toList = [116, 97, 107, 101]) :
    Calls Tryz.prog 68 #[.string F] w fun r w' => r = .returned (.string { data := #[110] }) ∧ w' = w := by
  go_enter Tryz.func68, Tryz.ntmps68
  go_wp2
  go_ret
  exact ⟨rfl, rfl⟩
theorem coShape_7 (F : ByteArray) (w : World) (h : F.toList = [116, 111, 103, 103, 108, 101]) :
    Calls Tryz.prog 68 #[.string F] w fun r w' => r = .returned (.string { data := #[110] }) ∧ w' = w := by
  go_enter Tryz.func68, Tryz.ntmps68
  go_wp2
  go_ret
  exact ⟨rfl, rfl⟩
theorem coShape_8 (F : ByteArray) (w : World) (h : F.toList = [114, 111, 119]) :
    Calls Tryz.prog 68 #[.string F] w fun r w' => r = .returned (.string { data := #[] }) ∧ w' = w := by
  go_enter Tryz.func68, Tryz.ntmps68
  go_wp2
  go_ret
  exact ⟨rfl, rfl⟩
theorem coShape_9 (F : ByteArray) (w : World) (h : F.toList = [98, 97, 99, 107]) :
    Calls Tryz.prog 68 #[.string F] w fun r w' => r = .returned (.string { data := #[] }) ∧ w' = w := by
  go_enter Tryz.func68, Tryz.ntmps68
  go_wp2
  go_ret
  exact ⟨rfl, rfl⟩
theorem coShape_10 (F : ByteArray) (w : World) (h : F.toList = [116, 105, 109, 101, 115]) :
    Calls Tryz.prog 68 #[.string F] w fun r w' => r = .returned (.string { data := #[110] }) ∧ w' = w := by
  go_enter Tryz.func68, Tryz.ntmps68
  go_wp2
  go_ret
  exact ⟨rfl, rfl⟩
theorem coShape_11 (F : ByteArray) (w : World) (h : F.toList = [118, 97, 99, 117, 97, 116, 101]) :
    Calls Tryz.prog 68 #[.string F] w fun r w' => r = .returned (.string { data := #[] }) ∧ w' = w := by
  go_enter Tryz.func68, Tryz.ntmps68
  go_wp2
  go_ret
  exact ⟨rfl, rfl⟩
theorem coShape_12 (F : ByteArray) (w : World) (h : F.toList = [103, 121, 114, 97, 116, 101]) :
    Calls Tryz.prog 68 #[.string F] w fun r w' => r = .returned (.string { data := #[] }) ∧ w' = w := by
  go_enter Tryz.func68, Tryz.ntmps68
  go_wp2
  go_ret
  exact ⟨rfl, rfl⟩
theorem coShape_13 (F : ByteArray) (w : World) (h : F.toList = [115, 104, 111, 119]) :
    Calls Tryz.prog 68 #[.string F] w fun r w' => r = .returned (.string { data := #[] }) ∧ w' = w := by
  go_enter Tryz.func68, Tryz.ntmps68
  go_wp2
  go_ret
  exact ⟨rfl, rfl⟩
theorem coShape_14 (F : ByteArray) (w : World) (h : F.toList = [105, 100, 101, 97, 108]) :
    Calls Tryz.prog 68 #[.string F] w fun r w' => r = .returned (.string { data := #[] }) ∧ w' = w := by
  go_enter Tryz.func68, Tryz.ntmps68
  go_wp2
  go_ret
  exact ⟨rfl, rfl⟩
theorem coShape_15 (F : ByteArray) (w : World) (h : F.toList = [115, 105, 122, 101]) :
    Calls Tryz.prog 68 #[.string F] w fun r w' => r = .returned (.string { data := #[] }) ∧ w' = w := by
  go_enter Tryz.func68, Tryz.ntmps68
  go_wp2
  go_ret
  exact ⟨rfl, rfl⟩
theorem coShape_16 (F : ByteArray) (w : World) (h : F.toList = [111, 114, 98, 105, 116]) :
    Calls Tryz.prog 68 #[.string F] w fun r w' => r = .returned (.string { data := #[] }) ∧ w' = w := by
  go_enter Tryz.func68, Tryz.ntmps68
  go_wp2
  go_ret
  exact ⟨rfl, rfl⟩
theorem coShape_17 (F : ByteArray) (w : World) (h : F.toList = [105, 100, 101, 97, 108, 115]) :
    Calls Tryz.prog 68 #[.string F] w fun r w' => r = .returned (.string { data := #[] }) ∧ w' = w := by
  go_enter Tryz.func68, Tryz.ntmps68
  go_wp2
  go_ret
  exact ⟨rfl, rfl⟩
theorem coShape_18 (F : ByteArray) (w : World) (h : F.toList = [111, 114, 100, 101, 114, 115]) :
    Calls Tryz.prog 68 #[.string F] w fun r w' => r = .returned (.string { data := #[] }) ∧ w' = w := by
  go_enter Tryz.func68, Tryz.ntmps68
  go_wp2
  go_ret
  exact ⟨rfl, rfl⟩
theorem coShape_19 (F : ByteArray) (w : World) (h : F.toList = [108, 101, 110, 103, 116, 104, 115]) :
    Calls Tryz.prog 68 #[.string F] w fun r w' => r = .returned (.string { data := #[] }) ∧ w' = w := by
  go_enter Tryz.func68, Tryz.ntmps68
  go_wp2
  go_ret
  exact ⟨rfl, rfl⟩
theorem coShape_20 (F : ByteArray) (w : World) (h : F.toList = [109, 101, 97, 110]) :
    Calls Tryz.prog 68 #[.string F] w fun r w' => r = .returned (.string { data := #[] }) ∧ w' = w := by
  go_enter Tryz.func68, Tryz.ntmps68
  go_wp2
  go_ret
  exact ⟨rfl, rfl⟩
theorem coShape_21 (F : ByteArray) (w : World) (h : F.toList = [101, 118, 101, 110]) :
    Calls Tryz.prog 68 #[.string F] w fun r w' => r = .returned (.string { data := #[] }) ∧ w' = w := by
  go_enter Tryz.func68, Tryz.ntmps68
  go_wp2
  go_ret
  exact ⟨rfl, rfl⟩
theorem coShape_any (w0 : List UInt8) (w : World) (hf : (32 : UInt8) ∉ w0) :
    Calls Tryz.prog 68 #[.string (sB w0)] w fun r w' => r = .returned (.string (sB (shD (ixD w0)))) ∧ w' = w := by
  have hlt := ixD_lt w0
  by_cases h0 : ixD w0 = 0
  · have hz := fun c hc => ixD_zero hf c hc h0
    rw [h0]
    exact coShape_no w0 w (name_not (hz 1 (by decide)) (by decide)) (name_not (hz 2 (by decide)) (by decide)) (name_not (hz 3 (by decide)) (by decide)) (name_not (hz 4 (by decide)) (by decide)) (name_not (hz 5 (by decide)) (by decide)) (name_not (hz 6 (by decide)) (by decide)) (name_not (hz 7 (by decide)) (by decide)) (name_not (hz 8 (by decide)) (by decide)) (name_not (hz 9 (by decide)) (by decide)) (name_not (hz 10 (by decide)) (by decide)) (name_not (hz 11 (by decide)) (by decide)) (name_not (hz 12 (by decide)) (by decide)) (name_not (hz 13 (by decide)) (by decide)) (name_not (hz 14 (by decide)) (by decide)) (name_not (hz 15 (by decide)) (by decide)) (name_not (hz 16 (by decide)) (by decide)) (name_not (hz 17 (by decide)) (by decide)) (name_not (hz 18 (by decide)) (by decide)) (name_not (hz 19 (by decide)) (by decide)) (name_not (hz 20 (by decide)) (by decide)) (name_not (hz 21 (by decide)) (by decide))
  · have hnm := ixD_at h0
    generalize ixD w0 = c at hlt h0 hnm ⊢
    rcases (show c = 1 ∨ c = 2 ∨ c = 3 ∨ c = 4 ∨ c = 5 ∨ c = 6 ∨ c = 7 ∨ c = 8 ∨ c = 9 ∨ c = 10 ∨ c = 11 ∨ c = 12 ∨ c = 13 ∨ c = 14 ∨ c = 15 ∨ c = 16 ∨ c = 17 ∨ c = 18 ∨ c = 19 ∨ c = 20 ∨ c = 21 from by omega) with rfl | rfl | rfl | rfl | rfl | rfl | rfl | rfl | rfl | rfl | rfl | rfl | rfl | rfl | rfl | rfl | rfl | rfl | rfl | rfl | rfl
    · exact coShape_1 _ w (name_at 1 hnm.symm (by decide))
    · exact coShape_2 _ w (name_at 2 hnm.symm (by decide))
    · exact coShape_3 _ w (name_at 3 hnm.symm (by decide))
    · exact coShape_4 _ w (name_at 4 hnm.symm (by decide))
    · exact coShape_5 _ w (name_at 5 hnm.symm (by decide))
    · exact coShape_6 _ w (name_at 6 hnm.symm (by decide))
    · exact coShape_7 _ w (name_at 7 hnm.symm (by decide))
    · exact coShape_8 _ w (name_at 8 hnm.symm (by decide))
    · exact coShape_9 _ w (name_at 9 hnm.symm (by decide))
    · exact coShape_10 _ w (name_at 10 hnm.symm (by decide))
    · exact coShape_11 _ w (name_at 11 hnm.symm (by decide))
    · exact coShape_12 _ w (name_at 12 hnm.symm (by decide))
    · exact coShape_13 _ w (name_at 13 hnm.symm (by decide))
    · exact coShape_14 _ w (name_at 14 hnm.symm (by decide))
    · exact coShape_15 _ w (name_at 15 hnm.symm (by decide))
    · exact coShape_16 _ w (name_at 16 hnm.symm (by decide))
    · exact coShape_17 _ w (name_at 17 hnm.symm (by decide))
    · exact coShape_18 _ w (name_at 18 hnm.symm (by decide))
    · exact coShape_19 _ w (name_at 19 hnm.symm (by decide))
    · exact coShape_20 _ w (name_at 20 hnm.symm (by decide))
    · exact coShape_21 _ w (name_at 21 hnm.symm (by decide))
end Go.Proofs.YtbmhaamenjhjfaaGreatDoor

/- stand, put and moved of the model's lines. (by gendw.py) -/
namespace Go.Proofs.YtbmhaamenjhjfaaGreatDoor
open Go.RowKit Go.WideShapes Go.ChangeShapes
set_option linter.unusedVariables false
theorem stand_no (g : Nat) (pv : Value) (w : World) (hp : ∃ A n c, pv = .slice A n c) :
    Calls Tryz.prog 71 #[.pointer (some ⟨g, 0, none⟩), .agg #[pv], .bool false] w fun r w' => r = .returned (.string { data := #[110, 111] }) ∧ Below w.heap.size w w' := by
  obtain ⟨A, n, c, rfl⟩ := hp
  have HB := hid (below_alloc (Below.refl _ w) (.cells #[.slice A n c] 28))
  go_enter Tryz.func71, Tryz.ntmps71
  go_wp2
  go_ret
  exact ⟨rfl, HB.out⟩
theorem Blk.turnedG {w w' : World} {b g : Nat} {t : TypeId} {cs : Array Value} (h : Blk w b t cs) (ht : TurnedIn g (g + 1) w w') (hne : b ≠ g) : Blk w' b t cs := (ht.block b h.lt (by omega)).trans h
theorem stand_yes (g : Nat) (d0 d1 tv nv pv : Value) (p : List Int) (w : World) (hb : Blk w g 79 #[d0, d1, tv, nv]) (hv : Ints w pv p) (hg : good p = true) (hne : ∀ k, pv.ownBlock = some k → k ≠ g) :
    Calls Tryz.prog 71 #[.pointer (some ⟨g, 0, none⟩), .agg #[pv], .bool true] w fun r w' => r = .returned (.string (sB (ansTX p))) ∧ Blk w' g 79 #[pv, .int .i64 0, tv, nv] ∧ TurnedIn g (g + 1) w w' := by
  have HG := hid hg
  have hgw : g < w.heap.size := hb.lt
  have HI0 := hid (fun o i0 y0 y1 => (((hv.alloc o).away hne i0 y0).away hne (i0 + 1) y1))
  obtain ⟨A, c, rfl, -⟩ := hv
  obtain ⟨n, hn⟩ : ∃ n, p.length = n := ⟨_, rfl⟩
  rw [hn] at HI0 hne ⊢
  clear hn
  have HK := hid (hb.alloc (.cells #[.slice A n c] 28))
  have HX := hid (Blk.new w 28 #[.slice A n c])
  have HI := hid (HI0.out (.cells #[.slice A n c] 28) 0 (.slice A n c) (.int .i64 0))
  have HT := hid (TurnedIn.of_below (B := g) (E := g + 1) (below_alloc (Below.refl _ w) (.cells #[.slice A n c] 28)))
  clear HI0 hne hb hg
  go_enter Tryz.func71, Tryz.ntmps71
  go_upto_region 3 with (fail)
  generalize w.alloc (.cells #[.slice A n c] 28) = W at HK HX HI HT ⊢
  have k0 : W.cell? ⟨g, 0, none⟩ = some d0 := HK.out.cell 0
  have k1 : W.cell? ⟨g, 1, none⟩ = some d1 := HK.out.cell 1
  have f0 := HK.out.frozen 0
  have f1 := HK.out.frozen 1
  have x0 : W.cell? ⟨w.heap.size, 0, none⟩ = some (.slice A n c) := HX.out.cell 0
  go_upto_region 4 with (fail)
  clear k0 k1 f0 f1 x0
  have HK2 := hid (show Blk ((W.setCell ⟨g, 0, none⟩ (.slice A n c)).setCell ⟨g, 1, none⟩ (.int .i64 0)) g 79 #[.slice A n c, .int .i64 0, tv, nv] from (HK.out.set_ 0 _).set_ 1 _)
  have HT2 := hid ((HT.out.set_ ⟨g, 0, none⟩ ⟨Nat.le_refl _, Nat.lt_succ_self _⟩ (.slice A n c)).set_ ⟨g, 1, none⟩ ⟨Nat.le_refl _, Nat.lt_succ_self _⟩ (.int .i64 0))
  have HX2 := hid (HX.out.put2 (by omega) (.slice A n c) (.int .i64 0) : Blk ((W.setCell ⟨g, 0, none⟩ (.slice A n c)).setCell ⟨g, 1, none⟩ (.int .i64 0)) w.heap.size _ _)
  generalize (W.setCell ⟨g, 0, none⟩ (.slice A n c)).setCell ⟨g, 1, none⟩ (.int .i64 0) = V at HK2 HT2 HX2 HI ⊢
  have x0 : V.cell? ⟨w.heap.size, 0, none⟩ = some (.slice A n c) := HX2.out.cell 0
  go_wp2_with fail
  clear x0
  refine (poText_any _ p _ HI.out HG.out).mono ?_
  rintro e w2 ⟨rfl, hb⟩
  go_wp2
  go_ret
  exact ⟨ret_s (by rw [ansTX_yes HG.out]), HK2.out.below hb HK2.out.lt, HT2.out.belowB hb (by have := HT2.out.size; omega)⟩
theorem put_no (g : Nat) (s : Int) (w : World) :
    Calls Tryz.prog 78 #[.pointer (some ⟨g, 0, none⟩), .int .i64 s, .bool false] w fun r w' => r = .returned (.string { data := #[110, 111] }) ∧ Below w.heap.size w w' := by
  go_enter Tryz.func78, Tryz.ntmps78
  go_wp2
  go_ret
  exact ⟨rfl, Below.refl _ _⟩
theorem put_yes (g : Nat) (d0 d1 tv nv : Value) (s : Int) (w : World) (hb : Blk w g 79 #[d0, d1, tv, nv]) (h0 : 0 ≤ s) (hn : s ≤ 1000000000000) :
    Calls Tryz.prog 78 #[.pointer (some ⟨g, 0, none⟩), .int .i64 s, .bool true] w fun r w' => r = .returned (.string (sB (numT s))) ∧ Blk w' g 79 #[d0, .int .i64 s, tv, nv] ∧ TurnedIn g (g + 1) w w' := by
  have HK := hid hb
  have hgw : g < w.heap.size := hb.lt
  have k1 : w.cell? ⟨g, 1, none⟩ = some d1 := hb.cell 1
  have f1 := hb.frozen 1
  clear hb
  go_enter Tryz.func78, Tryz.ntmps78
  go_upto_region 4 with (fail)
  clear k1 f1
  have HK2 := hid (show Blk (w.setCell ⟨g, 1, none⟩ (.int .i64 s)) g 79 #[d0, .int .i64 s, tv, nv] from HK.out.set_ 1 _)
  have HT2 := hid ((TurnedIn.refl g (g + 1) w).set_ ⟨g, 1, none⟩ ⟨Nat.le_refl _, Nat.lt_succ_self _⟩ (.int .i64 s))
  generalize w.setCell ⟨g, 1, none⟩ (.int .i64 s) = V at HK2 HT2 ⊢
  go_wp2_with fail
  refine (l1NumT_any s _ h0 hn).mono ?_
  rintro e w2 ⟨rfl, hb⟩
  go_wp2
  go_ret
  exact ⟨rfl, HK2.out.below hb HK2.out.lt, HT2.out.belowB hb (by have := HT2.out.size; omega)⟩
end Go.Proofs.YtbmhaamenjhjfaaGreatDoor
