/- DskM DskW DskH -/
import Derived.Test.YtbmhaamenjhjfaaGreatDoorPkD29
namespace Go.Proofs.YtbmhaamenjhjfaaGreatDoor
open Go.RowKit Go.WideShapes Go.ChangeShapes
set_option linter.unusedVariables false
theorem coText_any (v : Value) (ls : List Int) (w : World) (hv : Ints w v ls) (hl : ls.length ≤ 2000) (hx : ∀ j, j < ls.length → 0 ≤ ls.getD j 0 ∧ ls.getD j 0 ≤ 1000000) :
    Calls Tryz.prog 87 #[v] w fun r w' => r = .returned (.string (sB (lisT ls))) ∧ Below w.heap.size w w' := by
  have HV := hid hv
  have HX := hid hx
  have HL := hid (fun k (hk : k ≤ ls.length) => lisN_length (ls := ls) (fun j hj => by have := (hx j hj).2; omega) k hk)
  have HE : Hid (Value.string { data := #[] } = Value.string (sB [])) := hid rfl
  obtain ⟨A, c, rfl, -⟩ := hv
  obtain ⟨n, hn⟩ : ∃ n, ls.length = n := ⟨_, rfl⟩
  have HN := hid hn
  rw [hn] at hl HV HL ⊢
  clear hx hn
  go_enter Tryz.func87, Tryz.ntmps87
  go_wp2
  go_loopw [3, 8] (fun s i wr => ∃ (k : Nat) (l : List UInt8), k ≤ n ∧ s = .string (sB l) ∧ i = .int .i64 k ∧ Hid (lisN ls k = l) ∧ Below w.heap.size w wr) (fun _ i _ => n - (intOf i).toNat)
  case atStart => exact ⟨0, [], Nat.zero_le _, HE.out, rfl, hid rfl, Below.refl _ _⟩
  case round =>
    obtain ⟨k, l, hk, rfl, rfl, HLs, hb⟩ := hrel
    have HB := hid hb
    have hwz := hb.size
    have hll : l.length ≤ 28000 := by
      have := HL.out k hk
      rw [HLs.out] at this; omega
    clear hb
    by_cases hkl : k < n
    · obtain ⟨x, hx⟩ : ∃ x, ls.getD k 0 = x := ⟨_, rfl⟩
      have h01 := HX.out k (by rw [HN.out]; exact hkl)
      have HIk := hid (HV.out.below HB.out)
      obtain ⟨A', c', eA, hA'⟩ := HIk.out
      injection eA with e1 e2 e3
      subst e1
      obtain ⟨bA, oA, rfl, -, hcc⟩ := hA' (by intro h0; have := HN.out; rw [h0] at this; simp at this; omega)
      have hck := hcc k (by rw [HN.out]; exact hkl)
      rw [hx] at hck h01
      obtain ⟨h0, h1⟩ := h01
      have hnl := numT_length (x := x) (by omega)
      have HS : Hid (lisN ls (k + 1) = (if k = 0 then [] else l ++ [44]) ++ numT x) := hid (by rw [lisN, HLs.out, hx])
      clear hx hA' hcc e2 e3
      by_cases hk0 : 0 < k
      · have hk0' : (0 : Int) < (k : Int) := by omega
        obtain ⟨L1, hL1⟩ : ∃ L1, l ++ [44] = L1 := ⟨_, rfl⟩
        have hL1l : L1.length ≤ 28001 := by rw [← hL1]; simp; omega
        obtain ⟨L4, hL4⟩ : ∃ L4, L1 ++ numT x = L4 := ⟨_, rfl⟩
        have hadd0 := fun W => run_sBc l 44 (by omega) W
        have Hadd3 := hid (fun W => run_sB L1 (numT x) (by omega) W)
        rw [hL4] at Hadd3
        rw [hL1] at hadd0
        have HS2 : Hid (lisN ls (k + 1) = L4) := hid (by rw [HS.out, if_neg (by omega), hL1, hL4])
        clear hL1 hL4
        go_wp2_with fail
        clear hck hadd0
        refine (l1NumT_any x _ h0 (by omega)).mono ?_
        rintro e w3 ⟨rfl, hb3⟩
        have hadd3 := Hadd3.out
        have HB3 := hid (below_to HB.out hb3)
        clear hb3
        go_wp2
        go_roundw
        case rel => exact ⟨k + 1, L4, by omega, rfl, by go_num, HS2, HB3.out⟩
        case measure => simp [intOf] <;> omega
      · have hk0' : ¬ (0 : Int) < (k : Int) := by omega
        have hl0 : l = [] := by
          have := HLs.out
          rw [show k = 0 by omega] at this
          exact this.symm
        obtain ⟨L4, hL4⟩ : ∃ L4, l ++ numT x = L4 := ⟨_, rfl⟩
        have Hadd3 := hid (fun W => run_sB l (numT x) (by omega) W)
        rw [hL4] at Hadd3
        have HS2 : Hid (lisN ls (k + 1) = L4) := hid (by rw [HS.out, if_pos (by omega), ← hL4, hl0])
        clear hL4 hl0
        go_wp2_with fail
        clear hck
        refine (l1NumT_any x _ h0 (by omega)).mono ?_
        rintro e w3 ⟨rfl, hb3⟩
        have hadd3 := Hadd3.out
        have HB3 := hid (below_to HB.out hb3)
        clear hb3
        go_wp2
        go_roundw
        case rel => exact ⟨k + 1, L4, by omega, rfl, by go_num, HS2, HB3.out⟩
        case measure => simp [intOf] <;> omega
    · obtain rfl : k = n := by omega
      have HT : Hid (lisT ls = l) := hid (by rw [← HLs.out]; unfold lisT; rw [HN.out])
      go_wp2
      go_ret
      exact ⟨ret_s (by rw [HT.out]), HB.out⟩
def shD (c : Nat) : List UInt8 := if c = 0 then [63] else (ksD c).map fun k => if k = 0 then 110 else 112
theorem name_at (c : Nat) {w0 l : List UInt8} (h : w0 = nmD c) (e : nmD c = l) : (sB w0).toList = l := by rw [sB_toList, h, e]
theorem name_not {w0 : List UInt8} {c : Nat} (h : w0 ≠ nmD c) {l : List UInt8} (e : nmD c = l) : ((sB w0).toList == l) = false := by
  rw [sB_toList]; exact beq_eq_false_iff_ne.2 (by rw [← e]; exact h)
set_option maxRecDepth 100000 in
theorem coShape_no (w0 : List UInt8) (w : World) (h1 : ((sB w0).toList == [112, 111, 115, 101, 116]) = false) (h2 : ((sB w0).toList == [114, 101, 99, 116, 97, 110, 103, 108, 101]) = false) (h3 : ((sB w0).toList == [115, 116, 97, 105, 114, 115]) = false) (h4 : ((sB w0).toList == [102, 101, 110, 99, 101]) = false) (h5 : ((sB w0).toList == [100, 117, 97, 108]) = false) (h6 : ((sB w0).toList == [116, 97, 107, 101]) = false) (h7 : ((sB w0).toList == [116, 111, 103, 103, 108, 101]) = false) (h8 : ((sB w0).toList == [114, 111, 119]) = false) (h9 : ((sB w0).toList == [98, 97, 99, 107]) = false) (h10 : ((sB w0).toList == [116, 105, 109, 101, 115]) = false) (h11 : ((sB w0).toList == [118, 97, 99, 117, 97, 116, 101]) = false) (h12 : ((sB w0).toList == [103, 121, 114, 97, 116, 101]) = false) (h13 : ((sB w0).toList == [115, 104, 111, 119]) = false) (h14 : ((sB w0).toList == [105, 100, 101, 97, 108]) = false) (h15 : ((sB w0).toList == [115, 105, 122, 101]) = false) (h16 : ((sB w0).toList == [111, 114, 98, 105, 116]) = false) (h17 : ((sB w0).toList == [105, 100, 101, 97, 108, 115]) = false) (h18 : ((sB w0).toList == [111, 114, 100, 101, 114, 115]) = false) (h19 : ((sB w0).toList == [108, 101, 110, 103, 116, 104, 115]) = false) (h20 : ((sB w0).toList == [109, 101, 97, 110]) = false) (h21 : ((sB w0).toList == [101, 118, 101, 110]) = false) :
    Calls Tryz.prog 68 #[.string (sB w0)] w fun r w' => r = .returned (.string { data := #[63] }) ∧ w' = w := by
  go_enter Tryz.func68, Tryz.ntmps68
  go_wp2
  go_ret
  exact ⟨rfl, rfl⟩
theorem coShape_1 (F : ByteArray) (w : World) (h : F.toList = [112, 111, 115, 101, 116]) :
    Calls Tryz.prog 68 #[.string F] w fun r w' => r = .returned (.string { data := #[112] }) ∧ w' = w := by
  go_enter Tryz.func68, Tryz.ntmps68
  go_wp2
  go_ret
  exact ⟨rfl, rfl⟩
theorem coShape_2 (F : ByteArray) (w : World) (h : F.toList = [114, 101, 99, 116, 97, 110, 103, 108, 101]) :
    Calls Tryz.prog 68 #[.string F] w fun r w' => r = .returned (.string { data := #[110, 110] }) ∧ w' = w := by
  go_enter Tryz.func68, Tryz.ntmps68
  go_wp2
  go_ret
  exact ⟨rfl, rfl⟩
theorem coShape_3 (F : ByteArray) (w : World) (h : F.toList = [115, 116, 97, 105, 114, 115]) :
    Calls Tryz.prog 68 #[.string F] w fun r w' => r = .returned (.string { data := #[110] }) ∧ w' = w := by
  go_enter Tryz.func68, Tryz.ntmps68
  go_wp2
  go_ret
  exact ⟨rfl, rfl⟩
theorem coShape_4 (F : ByteArray) (w : World) (h : F.toList = [102, 101, 110, 99, 101]) :
    Calls Tryz.prog 68 #[.string F] w fun r w' => r = .returned (.string { data := #[110] }) ∧ w' = w := by
  go_enter Tryz.func68, Tryz.ntmps68
  go_wp2
  go_ret
  exact ⟨rfl, rfl⟩
theorem coShape_5 (F : ByteArray) (w : World) (h : F.toList = [100, 117, 97, 108]) :
    Calls Tryz.prog 68 #[.string F] w fun r w' => r = .returned (.string { data := #[] }) ∧ w' = w := by
  go_enter Tryz.func68, Tryz.ntmps68
  go_wp2
  go_ret
  exact ⟨rfl, rfl⟩
theorem coShape_6 (F : ByteArray) (w : World) (h : F.toList = [116, 97, 107, 101]) :
    Calls Tryz.prog 68 #[.string F] w fun r w' => r = .returned (.string { data := #[110] }) ∧ w' = w := by
  go_enter Tryz.func68, Tryz.ntmps68
  go_wp2
  go_ret
  exact ⟨rfl, rfl⟩
theorem coShape_7 (F : ByteArray) (w : World) (h : F.toList = [116, 111, 103, 103, 108, 101]) :
    Calls Tryz.prog 68 #[.string F] w fun r w' => r = .returned (.string { data := #[110] }) ∧ w' = w := by
  go_enter Tryz.func68, Tryz.ntmps68
  go_wp2
  go_ret
  exact ⟨rfl, rfl⟩
theorem coShape_8 (F : ByteArray) (w : World) (h : F.toList = [114, 111, 119]) :
    Calls Tryz.prog 68 #[.string F] w fun r w' => r = .returned (.string { data := #[] }) ∧ w' = w := by
  go_enter Tryz.func68, Tryz.ntmps68
  go_wp2
  go_ret
  exact ⟨rfl, rfl⟩
theorem coShape_9 (F : ByteArray) (w : World) (h : F.toList = [98, 97, 99, 107]) :
    Calls Tryz.prog 68 #[.string F] w fun r w' => r = .returned (.string { data := #[] }) ∧ w' = w := by
  go_enter Tryz.func68, Tryz.ntmps68
  go_wp2
  go_ret
  exact ⟨rfl, rfl⟩
theorem coShape_10 (F : ByteArray) (w : World) (h : F.toList = [116, 105, 109, 101, 115]) :
    Calls Tryz.prog 68 #[.string F] w fun r w' => r = .returned (.string { data := #[110] }) ∧ w' = w := by
  go_enter Tryz.func68, Tryz.ntmps68
  go_wp2
  go_ret
  exact ⟨rfl, rfl⟩
theorem coShape_11 (F : ByteArray) (w : World) (h : F.toList = [118, 97, 99, 117, 97, 116, 101]) :
    Calls Tryz.prog 68 #[.string F] w fun r w' => r = .returned (.string { data := #[] }) ∧ w' = w := by
  go_enter Tryz.func68, Tryz.ntmps68
  go_wp2
  go_ret
  exact ⟨rfl, rfl⟩
theorem coShape_12 (F : ByteArray) (w : World) (h : F.toList = [103, 121, 114, 97, 116, 101]) :
    Calls Tryz.prog 68 #[.string F] w fun r w' => r = .returned (.string { data := #[] }) ∧ w' = w := by
  go_enter Tryz.func68, Tryz.ntmps68
  go_wp2
  go_ret
  exact ⟨rfl, rfl⟩
theorem coShape_13 (F : ByteArray) (w : World) (h : F.toList = [115, 104, 111, 119]) :
    Calls Tryz.prog 68 #[.string F] w fun r w' => r = .returned (.string { data := #[] }) ∧ w' = w := by
  go_enter Tryz.func68, Tryz.ntmps68
  go_wp2
  go_ret
  exact ⟨rfl, rfl⟩
theorem coShape_14 (F : ByteArray) (w : World) (h : F.toList = [105, 100, 101, 97, 108]) :
    Calls Tryz.prog 68 #[.string F] w fun r w' => r = .returned (.string { data := #[] }) ∧ w' = w := by
  go_enter Tryz.func68, Tryz.ntmps68
  go_wp2
  go_ret
  exact ⟨rfl, rfl⟩
theorem coShape_15 (F : ByteArray) (w : World) (h : F.toList = [115, 105, 122, 101]) :
    Calls Tryz.prog 68 #[.string F] w fun r w' => r = .returned (.string { data := #[] }) ∧ w' = w := by
  go_enter Tryz.func68, Tryz.ntmps68
  go_wp2
  go_ret
  exact ⟨rfl, rfl⟩
theorem coShape_16 (F : ByteArray) (w : World) (h : F.toList = [111, 114, 98, 105, 116]) :
    Calls Tryz.prog 68 #[.string F] w fun r w' => r = .returned (.string { data := #[] }) ∧ w' = w := by
  go_enter Tryz.func68, Tryz.ntmps68
  go_wp2
  go_ret
  exact ⟨rfl, rfl⟩
theorem coShape_17 (F : ByteArray) (w : World) (h : F.toList = [105, 100, 101, 97, 108, 115]) :
    Calls Tryz.prog 68 #[.string F] w fun r w' => r = .returned (.string { data := #[] }) ∧ w' = w := by
  go_enter Tryz.func68, Tryz.ntmps68
  go_wp2
  go_ret
  exact ⟨rfl, rfl⟩
theorem coShape_18 (F : ByteArray) (w : World) (h : F.toList = [111, 114, 100, 101, 114, 115]) :
    Calls Tryz.prog 68 #[.string F] w fun r w' => r = .returned (.string { data := #[] }) ∧ w' = w := by
  go_enter Tryz.func68, Tryz.ntmps68
  go_wp2
  go_ret
  exact ⟨rfl, rfl⟩
theorem coShape_19 (F : ByteArray) (w : World) (h : F.toList = [108, 101, 110, 103, 116, 104, 115]) :
    Calls Tryz.prog 68 #[.string F] w fun r w' => r = .returned (.string { data := #[] }) ∧ w' = w := by
  go_enter Tryz.func68, Tryz.ntmps68
  go_wp2
  go_ret
  exact ⟨rfl, rfl⟩
theorem coShape_20 (F : ByteArray) (w : World) (h : F.toList = [109, 101, 97, 110]) :
    Calls Tryz.prog 68 #[.string F] w fun r w' => r = .returned (.string { data := #[] }) ∧ w' = w := by
  go_enter Tryz.func68, Tryz.ntmps68
  go_wp2
  go_ret
  exact ⟨rfl, rfl⟩
theorem coShape_21 (F : ByteArray) (w : World) (h : F.toList = [101, 118, 101, 110]) :
    Calls Tryz.prog 68 #[.string F] w fun r w' => r = .returned (.string { data := #[] }) ∧ w' = w := by
  go_enter Tryz.func68, Tryz.ntmps68
  go_wp2
  go_ret
  exact ⟨rfl, rfl⟩
theorem coShape_any (w0 : List UInt8) (w : World) (hf : (32 : UInt8) ∉ w0) :
    Calls Tryz.prog 68 #[.string (sB w0)] w fun r w' => r = .returned (.string (sB (shD (ixD w0)))) ∧ w' = w := by
  have hlt := ixD_lt w0
  by_cases h0 : ixD w0 = 0
  · have hz := fun c hc => ixD_zero hf c hc h0
    rw [h0]
    exact coShape_no w0 w (name_not (hz 1 (by decide)) (by decide)) (name_not (hz 2 (by decide)) (by decide)) (name_not (hz 3 (by decide)) (by decide)) (name_not (hz 4 (by decide)) (by decide)) (name_not (hz 5 (by decide)) (by decide)) (name_not (hz 6 (by decide)) (by decide)) (name_not (hz 7 (by decide)) (by decide)) (name_not (hz 8 (by decide)) (by decide)) (name_not (hz 9 (by decide)) (by decide)) (name_not (hz 10 (by decide)) (by decide)) (name_not (hz 11 (by decide)) (by decide)) (name_not (hz 12 (by decide)) (by decide)) (name_not (hz 13 (by decide)) (by decide)) (name_not (hz 14 (by decide)) (by decide)) (name_not (hz 15 (by decide)) (by decide)) (name_not (hz 16 (by decide)) (by decide)) (name_not (hz 17 (by decide)) (by decide)) (name_not (hz 18 (by decide)) (by decide)) (name_not (hz 19 (by decide)) (by decide)) (name_not (hz 20 (by decide)) (by decide)) (name_not (hz 21 (by decide)) (by decide))
  · have hnm := ixD_at h0
    generalize ixD w0 = c at hlt h0 hnm ⊢
    rcases (show c = 1 ∨ c = 2 ∨ c = 3 ∨ c = 4 ∨ c = 5 ∨ c = 6 ∨ c = 7 ∨ c = 8 ∨ c = 9 ∨ c = 10 ∨ c = 11 ∨ c = 12 ∨ c = 13 ∨ c = 14 ∨ c = 15 ∨ c = 16 ∨ c = 17 ∨ c = 18 ∨ c = 19 ∨ c = 20 ∨ c = 21 from by omega) with rfl | rfl | rfl | rfl | rfl | rfl | rfl | rfl | rfl | rfl | rfl | rfl | rfl | rfl | rfl | rfl | rfl | rfl | rfl | rfl | rfl
    · exact coShape_1 _ w (name_at 1 hnm.symm (by decide))
    · exact coShape_2 _ w (name_at 2 hnm.symm (by decide))
    · exact coShape_3 _ w (name_at 3 hnm.symm (by decide))
    · exact coShape_4 _ w (name_at 4 hnm.symm (by decide))
    · exact coShape_5 _ w (name_at 5 hnm.symm (by decide))
    · exact coShape_6 _ w (name_at 6 hnm.symm (by decide))
    · exact coShape_7 _ w (name_at 7 hnm.symm (by decide))
    · exact coShape_8 _ w (name_at 8 hnm.symm (by decide))
    · exact coShape_9 _ w (name_at 9 hnm.symm (by decide))
    · exact coShape_10 _ w (name_at 10 hnm.symm (by decide))
    · exact coShape_11 _ w (name_at 11 hnm.symm (by decide))
    · exact coShape_12 _ w (name_at 12 hnm.symm (by decide))
    · exact coShape_13 _ w (name_at 13 hnm.symm (by decide))
    · exact coShape_14 _ w (name_at 14 hnm.symm (by decide))
    · exact coShape_15 _ w (name_at 15 hnm.symm (by decide))
    · exact coShape_16 _ w (name_at 16 hnm.symm (by decide))
    · exact coShape_17 _ w (name_at 17 hnm.symm (by decide))
    · exact coShape_18 _ w (name_at 18 hnm.symm (by decide))
    · exact coShape_19 _ w (name_at 19 hnm.symm (by decide))
    · exact coShape_20 _ w (name_at 20 hnm.symm (by decide))
    · exact coShape_21 _ w (name_at 21 hnm.symm (by decide))
end Go.Proofs.YtbmhaamenjhjfaaGreatDoor
namespace Go.Proofs.YtbmhaamenjhjfaaGreatDoor
open Go.RowKit Go.WideShapes Go.ChangeShapes
set_option linter.unusedVariables false
theorem stand_no (g : Nat) (pv : Value) (w : World) (hp : ∃ A n c, pv = .slice A n c) :
    Calls Tryz.prog 71 #[.pointer (some ⟨g, 0, none⟩), .agg #[pv], .bool false] w fun r w' => r = .returned (.string { data := #[110, 111] }) ∧ Below w.heap.size w w' := by
  obtain ⟨A, n, c, rfl⟩ := hp
  have HB := hid (below_alloc (Below.refl _ w) (.cells #[.slice A n c] 28))
  go_enter Tryz.func71, Tryz.ntmps71
  go_wp2
  go_ret
  exact ⟨rfl, HB.out⟩
theorem Blk.turnedG {w w' : World} {b g : Nat} {t : TypeId} {cs : Array Value} (h : Blk w b t cs) (ht : TurnedIn g (g + 1) w w') (hne : b ≠ g) : Blk w' b t cs := (ht.block b h.lt (by omega)).trans h
theorem stand_yes (g : Nat) (d0 d1 tv nv pv : Value) (p : List Int) (w : World) (hb : Blk w g 79 #[d0, d1, tv, nv]) (hv : Ints w pv p) (hg : good p = true) (hne : ∀ k, pv.ownBlock = some k → k ≠ g) :
    Calls Tryz.prog 71 #[.pointer (some ⟨g, 0, none⟩), .agg #[pv], .bool true] w fun r w' => r = .returned (.string (sB (ansTX p))) ∧ Blk w' g 79 #[pv, .int .i64 0, tv, nv] ∧ TurnedIn g (g + 1) w w' := by
  have HG := hid hg
  have hgw : g < w.heap.size := hb.lt
  have HI0 := hid (fun o i0 y0 y1 => (((hv.alloc o).away hne i0 y0).away hne (i0 + 1) y1))
  obtain ⟨A, c, rfl, -⟩ := hv
  obtain ⟨n, hn⟩ : ∃ n, p.length = n := ⟨_, rfl⟩
  rw [hn] at HI0 hne ⊢
  clear hn
  have HK := hid (hb.alloc (.cells #[.slice A n c] 28))
  have HX := hid (Blk.new w 28 #[.slice A n c])
  have HI := hid (HI0.out (.cells #[.slice A n c] 28) 0 (.slice A n c) (.int .i64 0))
  have HT := hid (TurnedIn.of_below (B := g) (E := g + 1) (below_alloc (Below.refl _ w) (.cells #[.slice A n c] 28)))
  clear HI0 hne hb hg
  go_enter Tryz.func71, Tryz.ntmps71
  go_upto_region 3 with (fail)
  generalize w.alloc (.cells #[.slice A n c] 28) = W at HK HX HI HT ⊢
  have k0 : W.cell? ⟨g, 0, none⟩ = some d0 := HK.out.cell 0
  have k1 : W.cell? ⟨g, 1, none⟩ = some d1 := HK.out.cell 1
  have f0 := HK.out.frozen 0
  have f1 := HK.out.frozen 1
  have x0 : W.cell? ⟨w.heap.size, 0, none⟩ = some (.slice A n c) := HX.out.cell 0
  go_upto_region 4 with (fail)
  clear k0 k1 f0 f1 x0
  have HK2 := hid (show Blk ((W.setCell ⟨g, 0, none⟩ (.slice A n c)).setCell ⟨g, 1, none⟩ (.int .i64 0)) g 79 #[.slice A n c, .int .i64 0, tv, nv] from (HK.out.set_ 0 _).set_ 1 _)
  have HT2 := hid ((HT.out.set_ ⟨g, 0, none⟩ ⟨Nat.le_refl _, Nat.lt_succ_self _⟩ (.slice A n c)).set_ ⟨g, 1, none⟩ ⟨Nat.le_refl _, Nat.lt_succ_self _⟩ (.int .i64 0))
  have HX2 := hid (HX.out.put2 (by omega) (.slice A n c) (.int .i64 0) : Blk ((W.setCell ⟨g, 0, none⟩ (.slice A n c)).setCell ⟨g, 1, none⟩ (.int .i64 0)) w.heap.size _ _)
  generalize (W.setCell ⟨g, 0, none⟩ (.slice A n c)).setCell ⟨g, 1, none⟩ (.int .i64 0) = V at HK2 HT2 HX2 HI ⊢
  have x0 : V.cell? ⟨w.heap.size, 0, none⟩ = some (.slice A n c) := HX2.out.cell 0
  go_wp2_with fail
  clear x0
  refine (poText_any _ p _ HI.out HG.out).mono ?_
  rintro e w2 ⟨rfl, hb⟩
  go_wp2
  go_ret
  exact ⟨ret_s (by rw [ansTX_yes HG.out]), HK2.out.below hb HK2.out.lt, HT2.out.belowB hb (by have := HT2.out.size; omega)⟩
theorem put_no (g : Nat) (s : Int) (w : World) :
    Calls Tryz.prog 78 #[.pointer (some ⟨g, 0, none⟩), .int .i64 s, .bool false] w fun r w' => r = .returned (.string { data := #[110, 111] }) ∧ Below w.heap.size w w' := by
  go_enter Tryz.func78, Tryz.ntmps78
  go_wp2
  go_ret
  exact ⟨rfl, Below.refl _ _⟩
theorem put_yes (g : Nat) (d0 d1 tv nv : Value) (s : Int) (w : World) (hb : Blk w g 79 #[d0, d1, tv, nv]) (h0 : 0 ≤ s) (hn : s ≤ 1000000000000) :
    Calls Tryz.prog 78 #[.pointer (some ⟨g, 0, none⟩), .int .i64 s, .bool true] w fun r w' => r = .returned (.string (sB (numT s))) ∧ Blk w' g 79 #[d0, .int .i64 s, tv, nv] ∧ TurnedIn g (g + 1) w w' := by
  have HK := hid hb
  have hgw : g < w.heap.size := hb.lt
  have k1 : w.cell? ⟨g, 1, none⟩ = some d1 := hb.cell 1
  have f1 := hb.frozen 1
  clear hb
  go_enter Tryz.func78, Tryz.ntmps78
  go_upto_region 4 with (fail)
  clear k1 f1
  have HK2 := hid (show Blk (w.setCell ⟨g, 1, none⟩ (.int .i64 s)) g 79 #[d0, .int .i64 s, tv, nv] from HK.out.set_ 1 _)
  have HT2 := hid ((TurnedIn.refl g (g + 1) w).set_ ⟨g, 1, none⟩ ⟨Nat.le_refl _, Nat.lt_succ_self _⟩ (.int .i64 s))
  generalize w.setCell ⟨g, 1, none⟩ (.int .i64 s) = V at HK2 HT2 ⊢
  go_wp2_with fail
  refine (l1NumT_any s _ h0 hn).mono ?_
  rintro e w2 ⟨rfl, hb⟩
  go_wp2
  go_ret
  exact ⟨rfl, HK2.out.below hb HK2.out.lt, HT2.out.belowB hb (by have := HT2.out.size; omega)⟩
end Go.Proofs.YtbmhaamenjhjfaaGreatDoor
namespace Go.Proofs.YtbmhaamenjhjfaaGreatDoor
open Go.RowKit Go.WideShapes Go.ChangeShapes
set_option linter.unusedVariables false
theorem okSet_of_ideal {xs : List Int} {s : Int} (h : okIdeal xs s = true) : okSet xs s = true := by
  obtain ⟨z, rfl, hg, hz, hi⟩ := okIdeal_all h
  exact okSet_nat hg hz
structure AK (w W : World) (g : Nat) (dv : Value) (s : Int) (tv nv : Value) : Prop where
  k0 : Blk W g 79 #[dv, .int .i64 s, tv, nv]
  k1 : Blk W w.heap.size 28 #[dv]
  bel : Below w.heap.size w W
theorem AK.below {w W W' : World} {g : Nat} {dv : Value} {s : Int} {tv nv : Value} (h : AK w W g dv s tv nv) (hb : Below W.heap.size W W') : AK w W' g dv s tv nv :=
  ⟨h.k0.below hb h.k0.lt, h.k1.below hb h.k1.lt, below_to h.bel hb⟩
theorem AK.new {w : World} {g : Nat} {dv : Value} {s : Int} {tv nv : Value} (h : Blk w g 79 #[dv, .int .i64 s, tv, nv]) : AK w (w.alloc (.cells #[dv] 28)) g dv s tv nv :=
  ⟨h.alloc _, Blk.new w _ _, below_alloc (Below.refl _ w) _⟩
set_option maxRecDepth 100000 in
theorem asked_13 (g : Nat) (v tv nv : Value) (xs : List Int) (s : Int) (F : ByteArray) (w : World) (hb : Blk w g 79 #[v, .int .i64 s, tv, nv]) (hv : Ints w v xs) (hid0 : okIdeal xs s = true) (hF : F.toList = [115, 104, 111, 119]) (ns p : List Int) :
    Calls Tryz.prog 48 #[.pointer (some ⟨g, 0, none⟩), .string F] w fun (r : Ending) w' => (∃ t, actD 13 ns p xs s = some (xs, s, t) ∧ r = .returned (.string (sB t))) ∧ Below w.heap.size w w' := by
  have hgw : g < w.heap.size := hb.lt
  have HV := hid hv
  obtain ⟨z, rfl, hgx, hzl, hzi⟩ := okIdeal_all hid0
  have HI := hid hid0
  have HGx := hid hgx
  have HZ := hid (And.intro hzl hzi)
  have hl10 := (good_length hgx).2
  have hz1 : z < 1024 := Nat.lt_of_lt_of_le hzl (Nat.le_trans (Nat.pow_le_pow_right (by decide) hl10) (by decide))
  obtain ⟨A, c, rfl, -⟩ := hv
  have HA := hid (show AK w (w.alloc (.cells #[.slice A xs.length c] 28)).drew g (.slice A xs.length c) (z : Int) tv nv from (AK.new hb).below (below_drewN (Below.refl _ _) 1))
  have k0 : w.cell? ⟨g, 0, none⟩ = some (.slice A xs.length c) := hb.cell 0
  have k1 : w.cell? ⟨g, 1, none⟩ = some (.int .i64 (z : Int)) := hb.cell 1
  clear hb hid0 hgx hzl hzi
  go_enter Tryz.func48, Tryz.ntmps48
  go_upto_region 1 with (fail)
  go_region
  generalize (w.alloc (.cells #[.slice A xs.length c] 28)).drew = W at HA ⊢
  clear k0 k1
  have HVW := hid (HV.out.below HA.out.bel)
  have x0 : W.cell? ⟨w.heap.size, 0, none⟩ = some (.slice A xs.length c) := HA.out.k1.cell 0
  go_wp2_with fail
  refine (poText_any _ xs _ HVW.out HGx.out).mono ?_
  rintro e w2 ⟨rfl, hb⟩
  go_wp2
  go_ret
  exact ⟨⟨_, rfl, ret_s (by rw [ansTX_yes HGx.out])⟩, below_to HA.out.bel hb⟩
set_option maxRecDepth 100000 in
theorem asked_14 (g : Nat) (v tv nv : Value) (xs : List Int) (s : Int) (F : ByteArray) (w : World) (hb : Blk w g 79 #[v, .int .i64 s, tv, nv]) (hv : Ints w v xs) (hid0 : okIdeal xs s = true) (hF : F.toList = [105, 100, 101, 97, 108]) (ns p : List Int) :
    Calls Tryz.prog 48 #[.pointer (some ⟨g, 0, none⟩), .string F] w fun (r : Ending) w' => (∃ t, actD 14 ns p xs s = some (xs, s, t) ∧ r = .returned (.string (sB t))) ∧ Below w.heap.size w w' := by
  have hgw : g < w.heap.size := hb.lt
  have HV := hid hv
  obtain ⟨z, rfl, hgx, hzl, hzi⟩ := okIdeal_all hid0
  have HI := hid hid0
  have HGx := hid hgx
  have HZ := hid (And.intro hzl hzi)
  have hl10 := (good_length hgx).2
  have hz1 : z < 1024 := Nat.lt_of_lt_of_le hzl (Nat.le_trans (Nat.pow_le_pow_right (by decide) hl10) (by decide))
  obtain ⟨A, c, rfl, -⟩ := hv
  have HA := hid (show AK w (w.alloc (.cells #[.slice A xs.length c] 28)).drew g (.slice A xs.length c) (z : Int) tv nv from (AK.new hb).below (below_drewN (Below.refl _ _) 1))
  have k0 : w.cell? ⟨g, 0, none⟩ = some (.slice A xs.length c) := hb.cell 0
  have k1 : w.cell? ⟨g, 1, none⟩ = some (.int .i64 (z : Int)) := hb.cell 1
  clear hb hid0 hgx hzl hzi
  go_enter Tryz.func48, Tryz.ntmps48
  go_upto_region 1 with (fail)
  go_region
  generalize (w.alloc (.cells #[.slice A xs.length c] 28)).drew = W at HA ⊢
  clear k0 k1
  have HVW := hid (HV.out.below HA.out.bel)
  have x0 : W.cell? ⟨w.heap.size, 0, none⟩ = some (.slice A xs.length c) := HA.out.k1.cell 0
  go_wp2_with fail
  refine (l1NumT_any (z : Int) _ (by omega) (by omega)).mono ?_
  rintro e w2 ⟨rfl, hb⟩
  go_wp2
  go_ret
  exact ⟨⟨_, rfl, rfl⟩, below_to HA.out.bel hb⟩
set_option maxRecDepth 100000 in
theorem asked_15 (g : Nat) (v tv nv : Value) (xs : List Int) (s : Int) (F : ByteArray) (w : World) (hb : Blk w g 79 #[v, .int .i64 s, tv, nv]) (hv : Ints w v xs) (hid0 : okIdeal xs s = true) (hF : F.toList = [115, 105, 122, 101]) (ns p : List Int) :
    Calls Tryz.prog 48 #[.pointer (some ⟨g, 0, none⟩), .string F] w fun (r : Ending) w' => (∃ t, actD 15 ns p xs s = some (xs, s, t) ∧ r = .returned (.string (sB t))) ∧ Below w.heap.size w w' := by
  have hgw : g < w.heap.size := hb.lt
  have HV := hid hv
  obtain ⟨z, rfl, hgx, hzl, hzi⟩ := okIdeal_all hid0
  have HI := hid hid0
  have HGx := hid hgx
  have HZ := hid (And.intro hzl hzi)
  have hl10 := (good_length hgx).2
  have hz1 : z < 1024 := Nat.lt_of_lt_of_le hzl (Nat.le_trans (Nat.pow_le_pow_right (by decide) hl10) (by decide))
  obtain ⟨A, c, rfl, -⟩ := hv
  have HA := hid (show AK w (w.alloc (.cells #[.slice A xs.length c] 28)).drew g (.slice A xs.length c) (z : Int) tv nv from (AK.new hb).below (below_drewN (Below.refl _ _) 1))
  have k0 : w.cell? ⟨g, 0, none⟩ = some (.slice A xs.length c) := hb.cell 0
  have k1 : w.cell? ⟨g, 1, none⟩ = some (.int .i64 (z : Int)) := hb.cell 1
  clear hb hid0 hgx hzl hzi
  go_enter Tryz.func48, Tryz.ntmps48
  go_upto_region 1 with (fail)
  go_region
  generalize (w.alloc (.cells #[.slice A xs.length c] 28)).drew = W at HA ⊢
  clear k0 k1
  have HVW := hid (HV.out.below HA.out.bel)
  have x0 : W.cell? ⟨w.heap.size, 0, none⟩ = some (.slice A xs.length c) := HA.out.k1.cell 0
  go_wp2_with fail
  refine (obSize_any z _ hz1).mono ?_
  rintro e w2 ⟨rfl, hw⟩
  rw [← hw]
  clear hw w2
  have hpc := pc_le z
  go_wp2_with fail
  refine (l1NumT_any ((pc z : Nat) : Int) _ (by omega) (by omega)).mono ?_
  rintro e w2 ⟨rfl, hb⟩
  go_wp2
  go_ret
  exact ⟨⟨_, rfl, ret_s (by rw [ansSz_yes (okSet_of_ideal HI.out)])⟩, below_to HA.out.bel hb⟩
set_option maxRecDepth 100000 in
theorem asked_16 (g : Nat) (v tv nv : Value) (xs : List Int) (s : Int) (F : ByteArray) (w : World) (hb : Blk w g 79 #[v, .int .i64 s, tv, nv]) (hv : Ints w v xs) (hid0 : okIdeal xs s = true) (hF : F.toList = [111, 114, 98, 105, 116]) (ns p : List Int) :
    Calls Tryz.prog 48 #[.pointer (some ⟨g, 0, none⟩), .string F] w fun (r : Ending) w' => (∃ t, actD 16 ns p xs s = some (xs, s, t) ∧ r = .returned (.string (sB t))) ∧ Below w.heap.size w w' := by
  have hgw : g < w.heap.size := hb.lt
  have HV := hid hv
  obtain ⟨z, rfl, hgx, hzl, hzi⟩ := okIdeal_all hid0
  have HI := hid hid0
  have HGx := hid hgx
  have HZ := hid (And.intro hzl hzi)
  have hl10 := (good_length hgx).2
  have hz1 : z < 1024 := Nat.lt_of_lt_of_le hzl (Nat.le_trans (Nat.pow_le_pow_right (by decide) hl10) (by decide))
  obtain ⟨A, c, rfl, -⟩ := hv
  have HA := hid (show AK w (w.alloc (.cells #[.slice A xs.length c] 28)).drew g (.slice A xs.length c) (z : Int) tv nv from (AK.new hb).below (below_drewN (Below.refl _ _) 1))
  have k0 : w.cell? ⟨g, 0, none⟩ = some (.slice A xs.length c) := hb.cell 0
  have k1 : w.cell? ⟨g, 1, none⟩ = some (.int .i64 (z : Int)) := hb.cell 1
  clear hb hid0 hgx hzl hzi
  go_enter Tryz.func48, Tryz.ntmps48
  go_upto_region 1 with (fail)
  go_region
  generalize (w.alloc (.cells #[.slice A xs.length c] 28)).drew = W at HA ⊢
  clear k0 k1
  have HVW := hid (HV.out.below HA.out.bel)
  have x0 : W.cell? ⟨w.heap.size, 0, none⟩ = some (.slice A xs.length c) := HA.out.k1.cell 0
  go_wp2_with fail
  refine (obOrbit_any _ xs z _ HVW.out HGx.out (idB_iff.2 HZ.out)).mono ?_
  rintro e w2 ⟨q, rfl, ho, hb⟩
  have HB2 := hid (below_to HA.out.bel hb)
  have HO := hid (show Ints w2 q (orbXs xs z) from ho.ints)
  obtain ⟨qA, qn, qc, rfl⟩ := ho.shape3
  clear ho hb
  have hf := ansOO_facts HI.out
  rw [ansOO_yes HI.out] at hf
  obtain ⟨L, hL⟩ : ∃ L, orbXs xs z = L := ⟨_, rfl⟩
  rw [hL] at hf HO
  have HL := hid hL
  obtain ⟨hf1, hf2, hf3⟩ := hf
  have HF3 := hid hf3
  clear hL hf3
  go_wp2_with fail
  refine (coText_any _ L _ HO.out hf2 HF3.out).mono ?_
  rintro e w3 ⟨rfl, hb⟩
  go_wp2
  go_ret
  exact ⟨⟨_, rfl, ret_s (by rw [ansOO_yes HI.out, HL.out])⟩, below_to HB2.out hb⟩
set_option maxRecDepth 100000 in
theorem asked_17 (g : Nat) (v tv nv : Value) (xs : List Int) (s : Int) (F : ByteArray) (w : World) (hb : Blk w g 79 #[v, .int .i64 s, tv, nv]) (hv : Ints w v xs) (hid0 : okIdeal xs s = true) (hF : F.toList = [105, 100, 101, 97, 108, 115]) (ns p : List Int) :
    Calls Tryz.prog 48 #[.pointer (some ⟨g, 0, none⟩), .string F] w fun (r : Ending) w' => (∃ t, actD 17 ns p xs s = some (xs, s, t) ∧ r = .returned (.string (sB t))) ∧ Below w.heap.size w w' := by
  have hgw : g < w.heap.size := hb.lt
  have HV := hid hv
  obtain ⟨z, rfl, hgx, hzl, hzi⟩ := okIdeal_all hid0
  have HI := hid hid0
  have HGx := hid hgx
  have HZ := hid (And.intro hzl hzi)
  have hl10 := (good_length hgx).2
  have hz1 : z < 1024 := Nat.lt_of_lt_of_le hzl (Nat.le_trans (Nat.pow_le_pow_right (by decide) hl10) (by decide))
  obtain ⟨A, c, rfl, -⟩ := hv
  have HA := hid (show AK w (w.alloc (.cells #[.slice A xs.length c] 28)).drew g (.slice A xs.length c) (z : Int) tv nv from (AK.new hb).below (below_drewN (Below.refl _ _) 1))
  have k0 : w.cell? ⟨g, 0, none⟩ = some (.slice A xs.length c) := hb.cell 0
  have k1 : w.cell? ⟨g, 1, none⟩ = some (.int .i64 (z : Int)) := hb.cell 1
  clear hb hid0 hgx hzl hzi
  go_enter Tryz.func48, Tryz.ntmps48
  go_upto_region 1 with (fail)
  go_region
  generalize (w.alloc (.cells #[.slice A xs.length c] 28)).drew = W at HA ⊢
  clear k0 k1
  have HVW := hid (HV.out.below HA.out.bel)
  have x0 : W.cell? ⟨w.heap.size, 0, none⟩ = some (.slice A xs.length c) := HA.out.k1.cell 0
  go_wp2_with fail
  refine (poIdeals_any _ xs _ HVW.out HGx.out).mono ?_
  rintro e w2 ⟨q, rfl, ho, hb⟩
  have HB2 := hid (below_to HA.out.bel hb)
  obtain ⟨qA, qc, rfl, -⟩ := ho.ints
  have hil : idealsL xs = setsL (holdsIdeal xs) (2 ^ xs.length) := if_pos HGx.out
  have hlb := idealsL_bound HGx.out
  rw [hil] at hlb
  have HIL := hid hil
  obtain ⟨n, hn⟩ : ∃ n, (setsL (holdsIdeal xs) (2 ^ xs.length)).length = n := ⟨_, rfl⟩
  rw [hn] at hlb ⊢
  have HN := hid hn
  clear ho hb hil hn
  go_wp2_with fail
  refine (l1NumT_any (n : Int) _ (by omega) (by omega)).mono ?_
  rintro e w3 ⟨rfl, hb⟩
  go_wp2
  go_ret
  exact ⟨⟨_, rfl, ret_s (by rw [HIL.out, HN.out])⟩, below_to HB2.out hb⟩
set_option maxRecDepth 100000 in
theorem asked_18 (g : Nat) (v tv nv : Value) (xs : List Int) (s : Int) (F : ByteArray) (w : World) (hb : Blk w g 79 #[v, .int .i64 s, tv, nv]) (hv : Ints w v xs) (hid0 : okIdeal xs s = true) (hF : F.toList = [111, 114, 100, 101, 114, 115]) (ns p : List Int) :
    Calls Tryz.prog 48 #[.pointer (some ⟨g, 0, none⟩), .string F] w fun (r : Ending) w' => (∃ t, actD 18 ns p xs s = some (xs, s, t) ∧ r = .returned (.string (sB t))) ∧ Below w.heap.size w w' := by
  have hgw : g < w.heap.size := hb.lt
  have HV := hid hv
  obtain ⟨z, rfl, hgx, hzl, hzi⟩ := okIdeal_all hid0
  have HI := hid hid0
  have HGx := hid hgx
  have HZ := hid (And.intro hzl hzi)
  have hl10 := (good_length hgx).2
  have hz1 : z < 1024 := Nat.lt_of_lt_of_le hzl (Nat.le_trans (Nat.pow_le_pow_right (by decide) hl10) (by decide))
  obtain ⟨A, c, rfl, -⟩ := hv
  have HA := hid (show AK w (w.alloc (.cells #[.slice A xs.length c] 28)).drew g (.slice A xs.length c) (z : Int) tv nv from (AK.new hb).below (below_drewN (Below.refl _ _) 1))
  have k0 : w.cell? ⟨g, 0, none⟩ = some (.slice A xs.length c) := hb.cell 0
  have k1 : w.cell? ⟨g, 1, none⟩ = some (.int .i64 (z : Int)) := hb.cell 1
  clear hb hid0 hgx hzl hzi
  go_enter Tryz.func48, Tryz.ntmps48
  go_upto_region 1 with (fail)
  go_region
  generalize (w.alloc (.cells #[.slice A xs.length c] 28)).drew = W at HA ⊢
  clear k0 k1
  have HVW := hid (HV.out.below HA.out.bel)
  have x0 : W.cell? ⟨w.heap.size, 0, none⟩ = some (.slice A xs.length c) := HA.out.k1.cell 0
  go_wp2_with fail
  refine (tgOrders_any _ xs _ HVW.out HGx.out).mono ?_
  rintro e w2 ⟨rfl, hb⟩
  have HB2 := hid (below_to HA.out.bel hb)
  have hN := ansN_bound xs
  rw [ansN_yes HGx.out] at hN
  obtain ⟨n, hn⟩ : ∃ n, ordersN xs = n := ⟨_, rfl⟩
  rw [hn] at hN ⊢
  have HN := hid hn
  clear hb hn
  go_wp2_with fail
  refine (l1NumT_any (n : Int) _ hN.1 hN.2).mono ?_
  rintro e w3 ⟨rfl, hb⟩
  go_wp2
  go_ret
  exact ⟨⟨_, rfl, ret_s (by rw [ansN_yes HGx.out, HN.out])⟩, below_to HB2.out hb⟩
set_option maxRecDepth 100000 in
theorem asked_19 (g : Nat) (v tv nv : Value) (xs : List Int) (s : Int) (F : ByteArray) (w : World) (hb : Blk w g 79 #[v, .int .i64 s, tv, nv]) (hv : Ints w v xs) (hid0 : okIdeal xs s = true) (hF : F.toList = [108, 101, 110, 103, 116, 104, 115]) (ns p : List Int) :
    Calls Tryz.prog 48 #[.pointer (some ⟨g, 0, none⟩), .string F] w fun (r : Ending) w' => (∃ t, actD 19 ns p xs s = some (xs, s, t) ∧ r = .returned (.string (sB t))) ∧ Below w.heap.size w w' := by
  have hgw : g < w.heap.size := hb.lt
  have HV := hid hv
  obtain ⟨z, rfl, hgx, hzl, hzi⟩ := okIdeal_all hid0
  have HI := hid hid0
  have HGx := hid hgx
  have HZ := hid (And.intro hzl hzi)
  have hl10 := (good_length hgx).2
  have hz1 : z < 1024 := Nat.lt_of_lt_of_le hzl (Nat.le_trans (Nat.pow_le_pow_right (by decide) hl10) (by decide))
  obtain ⟨A, c, rfl, -⟩ := hv
  have HA := hid (show AK w (w.alloc (.cells #[.slice A xs.length c] 28)).drew g (.slice A xs.length c) (z : Int) tv nv from (AK.new hb).below (below_drewN (Below.refl _ _) 1))
  have k0 : w.cell? ⟨g, 0, none⟩ = some (.slice A xs.length c) := hb.cell 0
  have k1 : w.cell? ⟨g, 1, none⟩ = some (.int .i64 (z : Int)) := hb.cell 1
  clear hb hid0 hgx hzl hzi
  go_enter Tryz.func48, Tryz.ntmps48
  go_upto_region 1 with (fail)
  go_region
  generalize (w.alloc (.cells #[.slice A xs.length c] 28)).drew = W at HA ⊢
  clear k0 k1
  have HVW := hid (HV.out.below HA.out.bel)
  have x0 : W.cell? ⟨w.heap.size, 0, none⟩ = some (.slice A xs.length c) := HA.out.k1.cell 0
  go_wp2_with fail
  refine (obLengths_any _ xs _ HVW.out HGx.out).mono ?_
  rintro e w2 ⟨q, rfl, ho, hb⟩
  have HB2 := hid (below_to HA.out.bel hb)
  have HO := hid (show Ints w2 q (lensXs xs) from ho.ints)
  obtain ⟨qA, qn, qc, rfl⟩ := ho.shape3
  clear ho hb
  have hf := ansOL_facts HGx.out
  rw [ansOL_yes HGx.out] at hf
  obtain ⟨L, hL⟩ : ∃ L, lensXs xs = L := ⟨_, rfl⟩
  rw [hL] at hf HO
  have HL := hid hL
  obtain ⟨hf1, hf2, hf3⟩ := hf
  have HF3 := hid hf3
  clear hL hf3
  go_wp2_with fail
  refine (coText_any _ L _ HO.out hf2 HF3.out).mono ?_
  rintro e w3 ⟨rfl, hb⟩
  go_wp2
  go_ret
  exact ⟨⟨_, rfl, ret_s (by rw [ansOL_yes HGx.out, HL.out])⟩, below_to HB2.out hb⟩
set_option maxRecDepth 100000 in
theorem asked_20 (g : Nat) (v tv nv : Value) (xs : List Int) (s : Int) (F : ByteArray) (w : World) (hb : Blk w g 79 #[v, .int .i64 s, tv, nv]) (hv : Ints w v xs) (hid0 : okIdeal xs s = true) (hF : F.toList = [109, 101, 97, 110]) (ns p : List Int) :
    Calls Tryz.prog 48 #[.pointer (some ⟨g, 0, none⟩), .string F] w fun (r : Ending) w' => (∃ t, actD 20 ns p xs s = some (xs, s, t) ∧ r = .returned (.string (sB t))) ∧ Below w.heap.size w w' := by
  have hgw : g < w.heap.size := hb.lt
  have HV := hid hv
  obtain ⟨z, rfl, hgx, hzl, hzi⟩ := okIdeal_all hid0
  have HI := hid hid0
  have HGx := hid hgx
  have HZ := hid (And.intro hzl hzi)
  have hl10 := (good_length hgx).2
  have hz1 : z < 1024 := Nat.lt_of_lt_of_le hzl (Nat.le_trans (Nat.pow_le_pow_right (by decide) hl10) (by decide))
  obtain ⟨A, c, rfl, -⟩ := hv
  have HA := hid (show AK w (w.alloc (.cells #[.slice A xs.length c] 28)).drew g (.slice A xs.length c) (z : Int) tv nv from (AK.new hb).below (below_drewN (Below.refl _ _) 1))
  have k0 : w.cell? ⟨g, 0, none⟩ = some (.slice A xs.length c) := hb.cell 0
  have k1 : w.cell? ⟨g, 1, none⟩ = some (.int .i64 (z : Int)) := hb.cell 1
  clear hb hid0 hgx hzl hzi
  go_enter Tryz.func48, Tryz.ntmps48
  go_upto_region 1 with (fail)
  go_region
  generalize (w.alloc (.cells #[.slice A xs.length c] 28)).drew = W at HA ⊢
  clear k0 k1
  have HVW := hid (HV.out.below HA.out.bel)
  have x0 : W.cell? ⟨w.heap.size, 0, none⟩ = some (.slice A xs.length c) := HA.out.k1.cell 0
  go_wp2_with fail
  refine (specMeanOfIdeals_any _ xs _ HVW.out (by omega)).mono ?_
  rintro e w2 ⟨rfl, hb⟩
  have HB2 := hid (below_to HA.out.bel hb)
  have hU := ansMU_bound HGx.out
  have hD := ansMD_bound HGx.out
  rw [HGx.out]
  obtain ⟨x, hx⟩ : ∃ x, ansMU xs = x := ⟨_, rfl⟩
  obtain ⟨y, hy⟩ : ∃ y, ansMD xs = y := ⟨_, rfl⟩
  rw [hx] at hU ⊢
  rw [hy] at hD ⊢
  have HX := hid hx
  have HY := hid hy
  clear hb hx hy
  have l1 := numT_length hU.2
  have l2 := numT_length hD.2
  have Ha1 := hid (fun W => run_sBc (numT x) 47 (by omega) W)
  have Ha2 := hid (fun W => run_sB (numT x ++ [47]) (numT y) (by simp; omega) W)
  obtain ⟨T1, hT1⟩ : ∃ T1, numT x ++ [47] = T1 := ⟨_, rfl⟩
  obtain ⟨T2, hT2⟩ : ∃ T2, T1 ++ numT y = T2 := ⟨_, rfl⟩
  rw [hT1] at Ha1 Ha2
  rw [hT2] at Ha2
  have HT : Hid ((numT x ++ [47]) ++ numT y = T2) := hid (by rw [hT1, hT2])
  clear l1 l2 hT1 hT2
  go_wp2_with fail
  refine (l1NumT_any x _ hU.1 hU.2).mono ?_
  rintro e w3 ⟨rfl, hb⟩
  have HB3 := hid (below_to HB2.out hb)
  clear hb
  have ha1 := Ha1.out
  go_wp2_with fail
  refine (l1NumT_any y _ hD.1 hD.2).mono ?_
  rintro e w4 ⟨rfl, hb⟩
  have ha2 := Ha2.out
  go_wp2
  go_ret
  exact ⟨⟨_, rfl, ret_s (by rw [HX.out, HY.out, HT.out])⟩, below_to HB3.out hb⟩
set_option maxRecDepth 100000 in
theorem asked_21 (g : Nat) (v tv nv : Value) (xs : List Int) (s : Int) (F : ByteArray) (w : World) (hb : Blk w g 79 #[v, .int .i64 s, tv, nv]) (hv : Ints w v xs) (hid0 : okIdeal xs s = true) (hF : F.toList = [101, 118, 101, 110]) (ns p : List Int) :
    Calls Tryz.prog 48 #[.pointer (some ⟨g, 0, none⟩), .string F] w fun (r : Ending) w' => (∃ t, actD 21 ns p xs s = some (xs, s, t) ∧ r = .returned (.string (sB t))) ∧ Below w.heap.size w w' := by
  have hgw : g < w.heap.size := hb.lt
  have HV := hid hv
  obtain ⟨z, rfl, hgx, hzl, hzi⟩ := okIdeal_all hid0
  have HI := hid hid0
  have HGx := hid hgx
  have HZ := hid (And.intro hzl hzi)
  have hl10 := (good_length hgx).2
  have hz1 : z < 1024 := Nat.lt_of_lt_of_le hzl (Nat.le_trans (Nat.pow_le_pow_right (by decide) hl10) (by decide))
  obtain ⟨A, c, rfl, -⟩ := hv
  have HA := hid (show AK w (w.alloc (.cells #[.slice A xs.length c] 28)).drew g (.slice A xs.length c) (z : Int) tv nv from (AK.new hb).below (below_drewN (Below.refl _ _) 1))
  have k0 : w.cell? ⟨g, 0, none⟩ = some (.slice A xs.length c) := hb.cell 0
  have k1 : w.cell? ⟨g, 1, none⟩ = some (.int .i64 (z : Int)) := hb.cell 1
  clear hb hid0 hgx hzl hzi
  go_enter Tryz.func48, Tryz.ntmps48
  go_upto_region 1 with (fail)
  go_region
  generalize (w.alloc (.cells #[.slice A xs.length c] 28)).drew = W at HA ⊢
  clear k0 k1
  have HVW := hid (HV.out.below HA.out.bel)
  have x0 : W.cell? ⟨w.heap.size, 0, none⟩ = some (.slice A xs.length c) := HA.out.k1.cell 0
  go_wp2_with fail
  refine (obEvenF_any _ xs _ HVW.out HGx.out).mono ?_
  rintro e w2 ⟨rfl, hb⟩
  have HB2 := hid (below_to HA.out.bel hb)
  have HE := hid (ansSizeIsEven_yes HGx.out)
  cases hq : evenL pc (allXs xs)
  · rw [hq] at HE
    clear hq hb
    go_wp2
    go_ret
    exact ⟨⟨_, rfl, by rw [HE.out]; rfl⟩, HB2.out⟩
  · rw [hq] at HE
    clear hq hb
    go_wp2
    go_ret
    exact ⟨⟨_, rfl, by rw [HE.out]; rfl⟩, HB2.out⟩
end Go.Proofs.YtbmhaamenjhjfaaGreatDoor
