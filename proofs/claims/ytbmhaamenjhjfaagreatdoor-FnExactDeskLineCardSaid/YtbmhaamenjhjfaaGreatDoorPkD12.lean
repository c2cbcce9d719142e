/- RvJ Row2 RvD RkD -/
import Derived.Laws.EntriesVeiled
import Derived.Test.YtbmhaamenjhjfaaGreatDoorPkD11
namespace Go.Proofs.YtbmhaamenjhjfaaGreatDoor
open Go.RowKit Go.WideShapes Go.ChangeShapes
set_option linter.unusedVariables false
theorem sweepInfo : (Tryz.prog.info? 223).map (·.size) = some 2 := by kernel_rfl
theorem rising1_any (a b : Nat) (w : World) (ha : a ≤ 10) (hb : b ≤ 9) :
    Calls Tryz.prog 209 #[.int .i64 a, .int .i64 b, .int .i64 1] w fun (r : Ending) w' => ∃ q, r = Ending.returned q ∧ OwnI 3 w' w.heap.size q (rnL a b) ∧ Below w.heap.size w w' := by
  have HF : Hid (∀ k, mapT (fun j => ((a + j : Nat) : Int)) (k + 1) = mapT (fun j => ((a + j : Nat) : Int)) k ++ [((a + k : Nat) : Int)]) := hid fun k => mapT_succ _ k
  have HL := hid (mapT_length (fun j => ((a + j : Nat) : Int)))
  have HE : Hid (∀ k, k = b + 1 - a → mapT (fun j => ((a + j : Nat) : Int)) k = rnL a b) := hid fun k hk => by subst hk; rfl
  have H0 : Hid (mapT (fun j => ((a + j : Nat) : Int)) 0 = []) := hid rfl
  obtain ⟨F, hF⟩ : ∃ F, mapT (fun j => ((a + j : Nat) : Int)) = F := ⟨_, rfl⟩
  rw [hF] at HF HL HE H0
  clear hF
  go_enter Tryz.func209, Tryz.ntmps209
  go_wp2
  go_loopw [7, 8] (fun q i wr => ∃ k x : Nat, x = a + k ∧ x ≤ 11 ∧ (x ≤ b ∨ k = b + 1 - a) ∧ i = .int .i64 x ∧ OwnI 3 wr w.heap.size q (F k) ∧ Below w.heap.size w wr) (fun _ i _ => b + 1 - (intOf i).toNat)
  case atStart => exact ⟨0, a, by omega, by omega, by omega, rfl, by rw [H0.out]; exact OwnI.nil _ _ _, Below.refl _ _⟩
  case round =>
    obtain ⟨k, x, hx, hx1, hd, rfl, ho, hb1⟩ := hrel
    have HO := hid ho
    have HB1 := hid hb1
    have hz := hb1.size
    by_cases hlt : x ≤ b
    · have hl48 : (F k).length < 1048576 := by rw [HL.out]; omega
      have HS : Hid (F (k + 1) = F k ++ [(x : Int)]) := hid (by rw [HF.out, hx])
      have HX := hid hx
      have HX2 : Hid (x + 1 ≤ b ∨ k + 1 = b + 1 - a) := hid (by omega)
      clear ho hb1 hx hd
      go_wp2_with (at_builtin; refine wpList_append_int rfl _ _ 22 3 rfl Tryz.underlying22 Tryz.info3 w.heap.size _ _ x rfl HO.out rfl rfl hl48 hz ?_; rintro q2 w6 ho6 hb6)
      go_roundw
      case rel => exact ⟨k + 1, x + 1, by have := HX.out; omega, by omega, HX2.out, by go_num, (by rw [HS.out]; exact ho6), HB1.out.trans hb6⟩
      case measure => simp [intOf]; omega
    · have HEq := hid (HE.out k (by omega))
      clear ho hb1 hx hd
      go_wp2
      go_ret
      exact ⟨_, rfl, by rw [← HEq.out]; exact HO.out, HB1.out⟩
theorem rising2_any (a b : Nat) (w : World) (ha : a ≤ 10) (hb : b ≤ 9) :
    Calls Tryz.prog 209 #[.int .i64 a, .int .i64 b, .int .i64 2] w fun (r : Ending) w' => ∃ q, r = Ending.returned q ∧ OwnI 3 w' w.heap.size q (rs2 a b) ∧ Below w.heap.size w w' := by
  have HF : Hid (∀ k, mapT (fun j => ((a + 2 * j : Nat) : Int)) (k + 1) = mapT (fun j => ((a + 2 * j : Nat) : Int)) k ++ [((a + 2 * k : Nat) : Int)]) := hid fun k => mapT_succ _ k
  have HL := hid (mapT_length (fun j => ((a + 2 * j : Nat) : Int)))
  have HE : Hid (∀ k, k = (b + 2 - a) / 2 → mapT (fun j => ((a + 2 * j : Nat) : Int)) k = rs2 a b) := hid fun k hk => by subst hk; rfl
  have H0 : Hid (mapT (fun j => ((a + 2 * j : Nat) : Int)) 0 = []) := hid rfl
  obtain ⟨F, hF⟩ : ∃ F, mapT (fun j => ((a + 2 * j : Nat) : Int)) = F := ⟨_, rfl⟩
  rw [hF] at HF HL HE H0
  clear hF
  go_enter Tryz.func209, Tryz.ntmps209
  go_wp2
  go_loopw [7, 8] (fun q i wr => ∃ k x : Nat, x = a + 2 * k ∧ x ≤ 11 ∧ (x ≤ b ∨ k = (b + 2 - a) / 2) ∧ i = .int .i64 x ∧ OwnI 3 wr w.heap.size q (F k) ∧ Below w.heap.size w wr) (fun _ i _ => b + 1 - (intOf i).toNat)
  case atStart => exact ⟨0, a, by omega, by omega, by omega, rfl, by rw [H0.out]; exact OwnI.nil _ _ _, Below.refl _ _⟩
  case round =>
    obtain ⟨k, x, hx, hx1, hd, rfl, ho, hb1⟩ := hrel
    have HO := hid ho
    have HB1 := hid hb1
    have hz := hb1.size
    by_cases hlt : x ≤ b
    · have hl48 : (F k).length < 1048576 := by rw [HL.out]; omega
      have HS : Hid (F (k + 1) = F k ++ [(x : Int)]) := hid (by rw [HF.out, hx])
      have HX := hid hx
      have HX2 : Hid (x + 2 ≤ b ∨ k + 1 = (b + 2 - a) / 2) := hid (by omega)
      clear ho hb1 hx hd
      go_wp2_with (at_builtin; refine wpList_append_int rfl _ _ 22 3 rfl Tryz.underlying22 Tryz.info3 w.heap.size _ _ x rfl HO.out rfl rfl hl48 hz ?_; rintro q2 w6 ho6 hb6)
      go_roundw
      case rel => exact ⟨k + 1, x + 2, by have := HX.out; omega, by omega, HX2.out, by go_num, (by rw [HS.out]; exact ho6), HB1.out.trans hb6⟩
      case measure => simp [intOf]; omega
    · have HEq := hid (HE.out k (by omega))
      clear ho hb1 hx hd
      go_wp2
      go_ret
      exact ⟨_, rfl, by rw [← HEq.out]; exact HO.out, HB1.out⟩
theorem falling_any (a b : Nat) (w : World) (ha : a ≤ 9) (hb : b ≤ 10) :
    Calls Tryz.prog 207 #[.int .i64 a, .int .i64 b] w fun (r : Ending) w' => ∃ q, r = Ending.returned q ∧ OwnI 3 w' w.heap.size q (fsL a b) ∧ Below w.heap.size w w' := by
  go_enter Tryz.func207, Tryz.ntmps207
  go_wp2_with fail
  refine (rising1_any b a _ hb ha).mono ?_
  rintro e w1 ⟨u, rfl, ho, hb⟩
  have HO := hid ho
  have HB := hid hb
  have HU := hid ho.blockLt
  obtain ⟨uA, un, uc, rfl⟩ := ho.shape3
  clear hb ho
  go_wp2_with fail
  refine (reverseI_any _ (rnL b a) _ _ HO.out (by rw [rnL_length]; omega)).mono ?_
  rintro e w2 ⟨rfl, ho, hg⟩
  have HO2 := hid ho
  have HG2 := hid hg
  clear ho hg
  go_wp2
  go_ret
  exact ⟨_, rfl, by rw [← rnL_rev]; exact HO2.out, below_grown HB.out HG2.out (fun k hk => (HU.out k hk).1)⟩
theorem cloVac_any (a h k : Nat) (w : World) (hA : At w a (.int .i64 h)) (h9 : h ≤ 9) (hk : k ≤ h) :
    Calls Tryz.prog 206 #[.int .i64 k, .pointer (some ⟨a, 0, none⟩)] w fun (r : Ending) w' => ∃ q, r = Ending.returned q ∧ OwnI 3 w' w.heap.size q (fVac h k) ∧ Below w.heap.size w w' := by
  have hc := hA.1
  clear hA
  go_enter Tryz.func206, Tryz.ntmps206
  go_wp2_with fail
  clear hc
  refine (falling_any h k _ h9 (by omega)).mono ?_
  rintro e w1 ⟨u, rfl, ho, hb⟩
  have HO := hid ho
  have HB := hid hb
  clear ho hb
  go_wp2
  go_ret
  exact ⟨_, rfl, HO.out, HB.out⟩
theorem swVac_any (h : Nat) (w : World) (h9 : h ≤ 9) :
    Calls Tryz.prog 172 #[.int .i64 h] w fun (r : Ending) w' => ∃ a, r = Ending.returned (.agg #[.int .i64 (cVac h : Nat), (.func (.func 206) #[] #[.pointer (some ⟨a, 0, none⟩)])]) ∧ At w' a (.int .i64 h) ∧ Below w.heap.size w w' := by
  go_enter Tryz.func172, Tryz.ntmps172
  have HB := hid (below_alloc (Below.refl _ w) (.cells #[(.int .i64 h)] 3))
  have A0 := hid (At.newAt w (.int .i64 h) 3 w.heap.size (by simp))
  have HR1 := hid (Blk.newAt (w.alloc (.cells #[.int .i64 h] 3)) 223 #[.int .i64 ((h : Int) + 1), (.func (.func 206) #[] #[.pointer (some ⟨w.heap.size, 0, none⟩)])] (w.heap.size + 1) (by simp))
  have HA1 := hid (A0.out.alloc (.cells #[.int .i64 ((h : Int) + 1), (.func (.func 206) #[] #[.pointer (some ⟨w.heap.size, 0, none⟩)])] 223))
  have HB1 := hid (below_alloc HB.out (.cells #[.int .i64 ((h : Int) + 1), (.func (.func 206) #[] #[.pointer (some ⟨w.heap.size, 0, none⟩)])] 223))
  go_wp2
  exact bodyPost_ret (results_cell_row rfl _ _ (w.heap.size + 1) 223 #[.int .i64 ((h : Int) + 1), (.func (.func 206) #[] #[.pointer (some ⟨w.heap.size, 0, none⟩)])] (0, 0) _ rfl HR1.out Tryz.underlying223 rfl sweepInfo) rfl ⟨w.heap.size, rfl, HA1.out, HB1.out⟩
set_option maxHeartbeats 800000 in
theorem wordVac_any (a h : Nat) (w : World) (hA : At w a (.int .i64 h)) (h9 : h ≤ 9) :
    Calls Tryz.prog 234 #[.agg #[.int .i64 (cVac h : Nat), (.func (.func 206) #[] #[.pointer (some ⟨a, 0, none⟩)])]] w fun (r : Ending) w' => ∃ q, r = Ending.returned q ∧ OwnI 3 w' w.heap.size q (wVac h) ∧ Below w.heap.size w w' := by
  have HA := hid hA
  have HEnd : Hid (wVac h = swL (fVac h) (cVac h)) := hid rfl
  have HLn := hid (fun k (hk : k ≤ 10) => sw_length (fVac h) (n := k) (fun k => fVac_length k h9) hk)
  have HFl := hid (fun k => fVac_length (h := h) k h9)
  have HSw := hid (swL_succ (fVac h))
  have HS0 := hid (swL_zero (fVac h))
  have hc10 : cVac h ≤ 10 := by unfold cVac; omega
  have HCl := hid (fun k W (hk : k < cVac h) (hW : At W a (.int .i64 h)) => cloVac_any a h k W hW h9 (by unfold cVac at hk; omega))
  obtain ⟨n, hn⟩ : ∃ n, cVac h = n := ⟨_, rfl⟩
  obtain ⟨F, hF⟩ : ∃ F, fVac h = F := ⟨_, rfl⟩
  rw [hn, hF] at HEnd
  rw [hF] at HLn HFl HSw HS0
  rw [hn] at hc10 ⊢
  rw [hn] at HCl
  have HF := hid hF
  rw [hF] at HCl
  clear hA hn hF
  go_enter Tryz.func234, Tryz.ntmps234
  have hbx := (Blk.new w 223 #[.int .i64 n, (.func (.func 206) #[] #[.pointer (some ⟨a, 0, none⟩)])]).cell 0
  go_wp2
  clear hbx
  go_loopw [3, 7] (fun q i wr => ∃ k : Nat, k ≤ n ∧ i = .int .i64 k ∧ OwnI 3 wr (w.heap.size + 1) q (swL F k) ∧ Below (w.heap.size + 1) (w.alloc (.cells #[.int .i64 n, (.func (.func 206) #[] #[.pointer (some ⟨a, 0, none⟩)])] 223)) wr) (fun _ i _ => n - (intOf i).toNat)
  case atStart => exact ⟨0, Nat.zero_le _, rfl, by rw [HS0.out]; exact OwnI.nil _ _ _, Below.refl _ _⟩
  case round =>
    obtain ⟨k, hk, rfl, ho, hb⟩ := hrel
    have HO := hid ho
    have HB1 := hid hb
    by_cases hlt : k < n
    · have hz1 : w.heap.size + 1 ≤ wr.heap.size := by have := hb.size; simpa using this
      have hb1 : wr.cell? ⟨w.heap.size, 1, none⟩ = some (.func (.func 206) #[] #[.pointer (some ⟨a, 0, none⟩)]) := by rw [box_cell hb 1]; rfl
      have HA1 := hid (HA.out.below (below_box hb))
      have hl1 := HLn.out k (by omega)
      have hl2 := HFl.out k
      clear ho hb
      go_wp2_with fail
      clear hb1
      refine (HCl.out k _ hlt HA1.out).mono ?_
      rintro e w2 ⟨u, rfl, ho2, hb2⟩
      have HU := hid ho2.ints
      have HO2 := hid (HO.out.below hb2)
      have HB2 := hid (HB1.out.trans (hb2.mono hz1))
      have hz2 : w.heap.size + 1 ≤ w2.heap.size := by have := hb2.size; omega
      obtain ⟨uA, un, uc, rfl⟩ := ho2.shape3
      have hl3 : (swL F k).length + (F k).length ≤ 1048576 := by omega
      clear ho2 hb2 hl1 hl2
      go_wp2_with (at_builtin; refine wpList_append_ints rfl _ _ 22 3 rfl Tryz.underlying22 Tryz.info3 (w.heap.size + 1) _ _ rfl HO2.out _ _ rfl HU.out hl3 hz2 ?_; intro q6 w6 ho6 hb6)
      go_roundw
      case rel => exact ⟨k + 1, by omega, by go_num, (by rw [HSw.out]; exact ho6), HB2.out.trans hb6⟩
      case measure => simp [intOf]; omega
    · obtain rfl : k = n := by omega
      clear ho hb
      go_wp2
      go_ret
      exact ⟨_, rfl, by rw [HEnd.out]; exact HO.out.mono (Nat.le_succ _), below_box HB1.out⟩
theorem cloGyr_any (a h k : Nat) (w : World) (hA : At w a (.int .i64 h)) (h9 : h ≤ 9) (hk : k ≤ 1) :
    Calls Tryz.prog 208 #[.int .i64 k, .pointer (some ⟨a, 0, none⟩)] w fun (r : Ending) w' => ∃ q, r = Ending.returned q ∧ OwnI 3 w' w.heap.size q (fGyr h k) ∧ Below w.heap.size w w' := by
  have hc := hA.1
  clear hA
  go_enter Tryz.func208, Tryz.ntmps208
  go_wp2_with fail
  clear hc
  refine (rising2_any k h _ (by omega) h9).mono ?_
  rintro e w1 ⟨u, rfl, ho, hb⟩
  have HO := hid ho
  have HB := hid hb
  clear ho hb
  go_wp2
  go_ret
  exact ⟨_, rfl, HO.out, HB.out⟩
theorem swGyr_any (h : Nat) (w : World) (h9 : h ≤ 9) :
    Calls Tryz.prog 173 #[.int .i64 h] w fun (r : Ending) w' => ∃ a, r = Ending.returned (.agg #[.int .i64 (cGyr h : Nat), (.func (.func 208) #[] #[.pointer (some ⟨a, 0, none⟩)])]) ∧ At w' a (.int .i64 h) ∧ Below w.heap.size w w' := by
  go_enter Tryz.func173, Tryz.ntmps173
  have HB := hid (below_alloc (Below.refl _ w) (.cells #[(.int .i64 h)] 3))
  have A0 := hid (At.newAt w (.int .i64 h) 3 w.heap.size (by simp))
  have HR1 := hid (Blk.newAt (w.alloc (.cells #[.int .i64 h] 3)) 223 #[.int .i64 2, (.func (.func 208) #[] #[.pointer (some ⟨w.heap.size, 0, none⟩)])] (w.heap.size + 1) (by simp))
  have HA1 := hid (A0.out.alloc (.cells #[.int .i64 2, (.func (.func 208) #[] #[.pointer (some ⟨w.heap.size, 0, none⟩)])] 223))
  have HB1 := hid (below_alloc HB.out (.cells #[.int .i64 2, (.func (.func 208) #[] #[.pointer (some ⟨w.heap.size, 0, none⟩)])] 223))
  go_wp2
  exact bodyPost_ret (results_cell_row rfl _ _ (w.heap.size + 1) 223 #[.int .i64 2, (.func (.func 208) #[] #[.pointer (some ⟨w.heap.size, 0, none⟩)])] (0, 0) _ rfl HR1.out Tryz.underlying223 rfl sweepInfo) rfl ⟨w.heap.size, rfl, HA1.out, HB1.out⟩
set_option maxHeartbeats 800000 in
theorem wordGyr_any (a h : Nat) (w : World) (hA : At w a (.int .i64 h)) (h9 : h ≤ 9) :
    Calls Tryz.prog 234 #[.agg #[.int .i64 (cGyr h : Nat), (.func (.func 208) #[] #[.pointer (some ⟨a, 0, none⟩)])]] w fun (r : Ending) w' => ∃ q, r = Ending.returned q ∧ OwnI 3 w' w.heap.size q (wGyr h) ∧ Below w.heap.size w w' := by
  have HA := hid hA
  have HEnd : Hid (wGyr h = swL (fGyr h) (cGyr h)) := hid rfl
  have HLn := hid (fun k (hk : k ≤ 10) => sw_length (fGyr h) (n := k) (fun k => fGyr_length k h9) hk)
  have HFl := hid (fun k => fGyr_length (h := h) k h9)
  have HSw := hid (swL_succ (fGyr h))
  have HS0 := hid (swL_zero (fGyr h))
  have hc10 : cGyr h ≤ 10 := by unfold cGyr; omega
  have HCl := hid (fun k W (hk : k < cGyr h) (hW : At W a (.int .i64 h)) => cloGyr_any a h k W hW h9 (by unfold cGyr at hk; omega))
  obtain ⟨n, hn⟩ : ∃ n, cGyr h = n := ⟨_, rfl⟩
  obtain ⟨F, hF⟩ : ∃ F, fGyr h = F := ⟨_, rfl⟩
  rw [hn, hF] at HEnd
  rw [hF] at HLn HFl HSw HS0
  rw [hn] at hc10 ⊢
  rw [hn] at HCl
  have HF := hid hF
  rw [hF] at HCl
  clear hA hn hF
  go_enter Tryz.func234, Tryz.ntmps234
  have hbx := (Blk.new w 223 #[.int .i64 n, (.func (.func 208) #[] #[.pointer (some ⟨a, 0, none⟩)])]).cell 0
  go_wp2
  clear hbx
  go_loopw [3, 7] (fun q i wr => ∃ k : Nat, k ≤ n ∧ i = .int .i64 k ∧ OwnI 3 wr (w.heap.size + 1) q (swL F k) ∧ Below (w.heap.size + 1) (w.alloc (.cells #[.int .i64 n, (.func (.func 208) #[] #[.pointer (some ⟨a, 0, none⟩)])] 223)) wr) (fun _ i _ => n - (intOf i).toNat)
  case atStart => exact ⟨0, Nat.zero_le _, rfl, by rw [HS0.out]; exact OwnI.nil _ _ _, Below.refl _ _⟩
  case round =>
    obtain ⟨k, hk, rfl, ho, hb⟩ := hrel
    have HO := hid ho
    have HB1 := hid hb
    by_cases hlt : k < n
    · have hz1 : w.heap.size + 1 ≤ wr.heap.size := by have := hb.size; simpa using this
      have hb1 : wr.cell? ⟨w.heap.size, 1, none⟩ = some (.func (.func 208) #[] #[.pointer (some ⟨a, 0, none⟩)]) := by rw [box_cell hb 1]; rfl
      have HA1 := hid (HA.out.below (below_box hb))
      have hl1 := HLn.out k (by omega)
      have hl2 := HFl.out k
      clear ho hb
      go_wp2_with fail
      clear hb1
      refine (HCl.out k _ hlt HA1.out).mono ?_
      rintro e w2 ⟨u, rfl, ho2, hb2⟩
      have HU := hid ho2.ints
      have HO2 := hid (HO.out.below hb2)
      have HB2 := hid (HB1.out.trans (hb2.mono hz1))
      have hz2 : w.heap.size + 1 ≤ w2.heap.size := by have := hb2.size; omega
      obtain ⟨uA, un, uc, rfl⟩ := ho2.shape3
      have hl3 : (swL F k).length + (F k).length ≤ 1048576 := by omega
      clear ho2 hb2 hl1 hl2
      go_wp2_with (at_builtin; refine wpList_append_ints rfl _ _ 22 3 rfl Tryz.underlying22 Tryz.info3 (w.heap.size + 1) _ _ rfl HO2.out _ _ rfl HU.out hl3 hz2 ?_; intro q6 w6 ho6 hb6)
      go_roundw
      case rel => exact ⟨k + 1, by omega, by go_num, (by rw [HSw.out]; exact ho6), HB2.out.trans hb6⟩
      case measure => simp [intOf]; omega
    · obtain rfl : k = n := by omega
      clear ho hb
      go_wp2
      go_ret
      exact ⟨_, rfl, by rw [HEnd.out]; exact HO.out.mono (Nat.le_succ _), below_box HB1.out⟩
end Go.Proofs.YtbmhaamenjhjfaaGreatDoor
namespace Go.Proofs.YtbmhaamenjhjfaaGreatDoor
open Go.RowKit Go.WideShapes Go.ChangeShapes
set_option linter.unusedVariables false
def okK (k : Int) : Bool := decide (-1000 ≤ k) && decide (k ≤ 1000)
def okRT (xs : List Int) (s k : Int) : Bool := okIdeal xs s && okK k
def rowKt (xs : List Int) (s : Nat) (k : Int) : Nat := if 0 ≤ k then iter (rowmo xs) k.toNat s else iter (rowba xs) (-k).toNat s
def ansRT (xs : List Int) (s k : Int) : Int := if okRT xs s k then (rowKt xs s.toNat k : Int) else 0
theorem okRT_no1 {xs : List Int} {s k : Int} (h : okIdeal xs s = false) : okRT xs s k = false := by simp [okRT, h]
theorem okRT_no2 {xs : List Int} {s k : Int} (h : okK k = false) : okRT xs s k = false := by simp [okRT, h]
theorem okRT_yes {xs : List Int} {s k : Int} (h : okIdeal xs s = true) (g : okK k = true) : okRT xs s k = true := by simp [okRT, h, g]
theorem ansRT_no {xs : List Int} {s k : Int} (h : okRT xs s k = false) : ansRT xs s k = 0 := by simp [ansRT, h]
theorem ansRT_pos {xs : List Int} {z n : Nat} (h : okRT xs z n = true) : ansRT xs z n = (iter (rowmo xs) n z : Int) := by
  simp [ansRT, h, rowKt]
theorem ansRT_neg {xs : List Int} {z : Nat} {k : Int} {n : Nat} (h : okRT xs z k = true) (hk : k < 0) (hn : -k = n) : ansRT xs z k = (iter (rowba xs) n z : Int) := by
  have h2 : ¬ 0 ≤ k := by omega
  simp [ansRT, h, rowKt, h2, hn]
theorem okK_no {k : Int} (h : ¬ (-1000 ≤ k ∧ k ≤ 1000)) : okK k = false := by
  rw [Bool.eq_false_iff]; simp only [okK, ne_eq, Bool.and_eq_true, decide_eq_true_eq]; exact h
theorem okK_yes {k : Int} (h : -1000 ≤ k ∧ k ≤ 1000) : okK k = true := by
  simp only [okK, Bool.and_eq_true, decide_eq_true_eq]; exact h
theorem okK_of {k : Int} (h : okK k = true) : -1000 ≤ k ∧ k ≤ 1000 := by simpa [okK] using h
set_option maxHeartbeats 800000 in
theorem implRowmotionTimes_any (v : Value) (xs : List Int) (s k : Int) (w : World) (hv : Ints w v xs) (hl : xs.length ≤ 1048576) (wf : (Lit.int .i64 s).wf = true) (wfk : (Lit.int .i64 k).wf = true) :
    Calls Tryz.prog 111 #[.agg #[v], .int .i64 s, .int .i64 k] w fun r w' => r = .returned (.tuple #[.int .i64 (ansRT xs s k), .bool (okRT xs s k)]) ∧ Below w.heap.size w w' := by
  have HV := hid hv
  clear hv wf wfk
  go_enter Tryz.func111, Tryz.ntmps111
  have HB := hid (below_alloc (Below.refl _ w) (.cells #[v] 28))
  have A0 := hid (At.newAt w v 28 w.heap.size (by simp))
  go_wp2_with fail
  refine (hasIdeal_any _ xs s _ (HV.out.below HB.out) hl).mono ?_
  rintro e w' ⟨rfl, hb⟩
  replace HB := hid (below_to HB.out hb)
  replace A0 := hid (A0.out.below hb)
  clear hb
  cases hq : okIdeal xs s
  · have HO := hid (okRT_no1 (k := k) hq)
    clear hq
    have ebox0 := A0.out.1
    go_wp2
    go_ret2
    exact ⟨ret_ib (ansRT_no HO.out).symm HO.out.symm, HB.out⟩
  · have HQ := hid hq
    clear hq
    obtain ⟨z, rfl, h3, h4, h5⟩ := okIdeal_all HQ.out
    have HG := hid h3
    have HN := hid h4
    clear h3 h4 h5
    by_cases h1 : k < -1000
    · have HO := hid (okRT_no2 (xs := xs) (s := z) (okK_no (show ¬ (-1000 ≤ k ∧ k ≤ 1000) by omega)))
      have ebox0 := A0.out.1
      go_wp2
      go_ret2
      exact ⟨ret_ib (ansRT_no HO.out).symm HO.out.symm, HB.out⟩
    · by_cases h2 : 1000 < k
      · have HO := hid (okRT_no2 (xs := xs) (s := z) (okK_no (show ¬ (-1000 ≤ k ∧ k ≤ 1000) by omega)))
        have ebox0 := A0.out.1
        go_wp2
        go_ret2
        exact ⟨ret_ib (ansRT_no HO.out).symm HO.out.symm, HB.out⟩
      · have HO := hid (okRT_yes HQ.out (okK_yes (show -1000 ≤ k ∧ k ≤ 1000 by omega)))
        by_cases h3 : k < 0
        · obtain ⟨n, hn⟩ := Int.eq_ofNat_of_zero_le (show 0 ≤ -k by omega)
          have HA := hid (ansRT_neg HO.out h3 hn)
          have hn1 : n ≤ 1000 := by omega
          have hw : IntKind.i64.wrap (-k) = (n : Int) := by rw [IntWalk.i64_in _ (by omega)]; exact hn
          have hneg : k = -(n : Int) := by omega
          clear hn
          subst hneg
          have hnn : - -(n : Int) = (n : Int) := by omega
          rw [hnn] at hw
          have ebox0 := A0.out.1
          go_wp2
          have hbx0 := A0.out.1
          go_region_with (first | (go_at_call 170; refine (undoneRow_any _).mono ?_; rintro e w1 ⟨rfl, hb1⟩; have H1 := hid (below_to HB.out.drew hb1); have hbx := (A0.out.drew.below hb1).1; clear hb1) | (go_at_call 169; refine (repeatedBack_any _ xs z n _ (HV.out.below H1.out) HG.out HN.out hn1).mono ?_; rintro e w2 ⟨rfl, hb2⟩; have H2 := hid (below_to H1.out hb2); clear hb2))
          all_goals go_wp2
          all_goals go_ret2
          all_goals exact ⟨ret_ib HA.out.symm HO.out.symm, H2.out⟩
        · obtain ⟨n, rfl⟩ := Int.eq_ofNat_of_zero_le (show 0 ≤ k by omega)
          have HA := hid (ansRT_pos HO.out)
          have ebox0 := A0.out.1
          go_wp2_with fail
          clear ebox0
          refine (repeatedRow_any _ xs z n _ (HV.out.below HB.out) HG.out HN.out (by omega)).mono ?_
          rintro e w' ⟨rfl, hb⟩
          replace HB := hid (below_to HB.out hb)
          replace A0 := hid (A0.out.below hb)
          clear hb
          have ebox0 := A0.out.1
          go_wp2
          go_ret2
          exact ⟨ret_ib HA.out.symm HO.out.symm, HB.out⟩
def ansRow (xs : List Int) (s : Int) (f : List Int → Nat → Nat) : Int := if okIdeal xs s then (f xs s.toNat : Int) else 0
theorem ansRow_yes {xs : List Int} {z : Nat} {f : List Int → Nat → Nat} (h : okIdeal xs z = true) : ansRow xs z f = (f xs z : Int) := by simp [ansRow, h]
theorem ansRT_one (xs : List Int) (s : Int) : ansRT xs s 1 = ansRow xs s rowmo ∧ okRT xs s 1 = okIdeal xs s := by
  have : okRT xs s 1 = okIdeal xs s := by simp [okRT, okK]
  refine ⟨?_, this⟩
  unfold ansRT ansRow
  rw [this]
  rfl
theorem ansRT_mone (xs : List Int) (s : Int) : ansRT xs s (-1) = ansRow xs s rowba ∧ okRT xs s (-1) = okIdeal xs s := by
  have : okRT xs s (-1) = okIdeal xs s := by simp [okRT, okK]
  refine ⟨?_, this⟩
  unfold ansRT ansRow
  rw [this]
  rfl
theorem implRowmotion_any (v : Value) (xs : List Int) (s : Int) (w : World) (hv : Ints w v xs) (hl : xs.length ≤ 1048576) (wf : (Lit.int .i64 s).wf = true) :
    Calls Tryz.prog 109 #[.agg #[v], .int .i64 s] w fun r w' => r = .returned (.tuple #[.int .i64 (ansRow xs s rowmo), .bool (okIdeal xs s)]) ∧ Below w.heap.size w w' := by
  have HV := hid hv
  have WF := hid wf
  have H1 := hid (ansRT_one xs s)
  clear hv wf
  go_enter Tryz.func109, Tryz.ntmps109
  have HB := hid (below_alloc (Below.refl _ w) (.cells #[v] 28))
  have A0 := hid (At.newAt w v 28 w.heap.size (by simp))
  go_wp2_with fail
  refine (implRowmotionTimes_any _ xs s 1 _ (HV.out.below HB.out) hl WF.out (by decide)).mono ?_
  rintro e w' ⟨rfl, hb⟩
  replace HB := hid (below_to HB.out hb)
  replace A0 := hid (A0.out.below hb)
  clear hb
  have ebox0 := A0.out.1
  go_wp2
  go_ret2
  exact ⟨ret_ib H1.out.1 H1.out.2, HB.out⟩
theorem implRowmotionBack_any (v : Value) (xs : List Int) (s : Int) (w : World) (hv : Ints w v xs) (hl : xs.length ≤ 1048576) (wf : (Lit.int .i64 s).wf = true) :
    Calls Tryz.prog 110 #[.agg #[v], .int .i64 s] w fun r w' => r = .returned (.tuple #[.int .i64 (ansRow xs s rowba), .bool (okIdeal xs s)]) ∧ Below w.heap.size w w' := by
  have HV := hid hv
  have WF := hid wf
  have H1 := hid (ansRT_mone xs s)
  clear hv wf
  go_enter Tryz.func110, Tryz.ntmps110
  have HB := hid (below_alloc (Below.refl _ w) (.cells #[v] 28))
  have A0 := hid (At.newAt w v 28 w.heap.size (by simp))
  go_wp2_with fail
  refine (implRowmotionTimes_any _ xs s (-1) _ (HV.out.below HB.out) hl WF.out (by decide)).mono ?_
  rintro e w' ⟨rfl, hb⟩
  replace HB := hid (below_to HB.out hb)
  replace A0 := hid (A0.out.below hb)
  clear hb
  have ebox0 := A0.out.1
  go_wp2
  go_ret2
  exact ⟨ret_ib H1.out.1 H1.out.2, HB.out⟩
theorem tgBack_any (v : Value) (xs : List Int) (s : Nat) (w : World) (hv : Ints w v xs) (hg : good xs = true) (hs : s < 2 ^ xs.length) :
    Calls Tryz.prog 81 #[.agg #[v], .int .i64 s] w fun r w' => r = .returned (.int .i64 (rowba xs s : Nat)) ∧ Below w.heap.size w w' := by
  have hl10 := (good_length hg).2
  have hs10 := lt1024 hs hl10
  have HG := hid hg
  have HS := hid (good_small hg s)
  have HV := hid hv
  obtain ⟨A, c, rfl, hA⟩ := hv
  have HA := hid hA
  have hT10 : top xs s < 1024 := Nat.lt_of_le_of_lt (sub_le _ _) hs10
  clear hA hg hs
  go_enter Tryz.func81, Tryz.ntmps81
  have HB := hid (below_alloc (Below.refl _ w) (.cells #[(.slice A xs.length c)] 28))
  have A0 := hid (At.newAt w (.slice A xs.length c) 28 w.heap.size (by simp))
  go_wp2_with fail
  refine (poTop_any _ xs s _ (HV.out.below HB.out) hl10 hs10 HS.out).mono ?_
  rintro e w' ⟨rfl, hb⟩
  replace HB := hid (below_to HB.out hb)
  replace A0 := hid (A0.out.below hb)
  clear hb
  have hbox := A0.out.1
  obtain ⟨T, hT⟩ : ∃ T, top xs s = T := ⟨_, rfl⟩
  rw [hT] at hT10 ⊢
  have HTop := hid hT
  clear hT
  go_wp2
  go_loop [6, 15] (fun q i => ∃ k t : Nat, k ≤ xs.length ∧ i = .int .i64 k ∧ q = .int .i64 t ∧ Hid (orN (backP xs T) (fun e => 2 ^ e) k = t)) (fun _ i => xs.length - (intOf i).toNat)
  case atStart => exact ⟨0, 0, Nat.zero_le _, rfl, rfl, hid rfl⟩
  case round =>
    obtain ⟨k, t, hk, rfl, rfl, HT⟩ := hrel
    by_cases hlt : k < xs.length
    · obtain ⟨b, o, rfl, hb, hc⟩ := HA.out (by intro h; simp [h] at hlt)
      have hcell : w'.cell? ⟨b, o + k, none⟩ = some (.int .i64 (xs.getD k 0)) := (HB.out.cell (p := ⟨b, o + k, none⟩) hb).trans (hc k hlt)
      have hr := row_lt HG.out hlt
      have hr10 := row_lt10 HG.out hlt
      obtain ⟨z, hz⟩ : ∃ z, row xs k = z := ⟨_, rfl⟩
      rw [hz] at hr hr10
      rw [hr.1] at hcell
      have HZ := hid hz
      clear hc hr hz
      cases hbit : T.testBit k
      · have HBit := hid hbit
        have han := i64_and_nat z T (by omega) (by omega)
        clear hbit
        by_cases h0 : z &&& T = 0
        · have h0' : (((z &&& T : Nat) : Int) == 0) = true := by rw [h0]; rfl
          have HP : Hid (backP xs T k = true) := hid (by simp [backP, HBit.out, HZ.out, h0])
          have ht10 := lt1024 (Nat.lt_of_le_of_lt (Nat.le_of_eq HT.out.symm) (rowbaN_lt xs T hk)) hl10
          have HN : Hid (orN (backP xs T) (fun e => 2 ^ e) (k + 1) = t ||| 2 ^ k) := hid (by rw [orN_yes HP.out, HT.out])
          have wp := wrap_pow' k (by omega)
          have hor := or_pow t k ht10 (by omega)
          clear h0
          go_wp2_with (go_at_call 130; refine (poIn_any T k (by omega) _).mono ?_; rw [HBit.out]; rintro e w' ⟨rfl, rfl⟩)
          go_round
          case rel => exact ⟨k + 1, _, by omega, by go_num, rfl, hid (by rw [HN.out])⟩
          case measure => simp [intOf]; omega
        · have h0' : (((z &&& T : Nat) : Int) == 0) = false := by rw [beq_eq_false_iff_ne]; omega
          have HP : Hid (backP xs T k = false) := hid (by simp [backP, HBit.out, HZ.out, h0])
          clear h0
          go_wp2_with (go_at_call 130; refine (poIn_any T k (by omega) _).mono ?_; rw [HBit.out]; rintro e w' ⟨rfl, rfl⟩)
          go_round
          case rel => exact ⟨k + 1, t, by omega, by go_num, rfl, hid (by rw [orN_no HP.out, HT.out])⟩
          case measure => simp [intOf]; omega
      · have HBit := hid hbit
        have HP : Hid (backP xs T k = false) := hid (by simp [backP, hbit])
        clear hbit
        go_wp2_with (go_at_call 130; refine (poIn_any T k (by omega) _).mono ?_; rw [HBit.out]; rintro e w' ⟨rfl, rfl⟩)
        go_round
        case rel => exact ⟨k + 1, t, by omega, by go_num, rfl, hid (by rw [orN_no HP.out, HT.out])⟩
        case measure => simp [intOf]; omega
    · obtain rfl : k = xs.length := by omega
      go_wp2
      go_ret
      exact ⟨ret_int (by rw [← HT.out, ← HTop.out]; rfl), HB.out⟩
end Go.Proofs.YtbmhaamenjhjfaaGreatDoor
namespace Go.Proofs.YtbmhaamenjhjfaaGreatDoor
open Go.RowKit Go.WideShapes Go.ChangeShapes
set_option linter.unusedVariables false
def duK (n s k : Nat) : Nat := orN (fun i => !s.testBit i) (fun i => 2 ^ (n - 1 - i)) k
def duN (n s : Nat) : Nat := duK n s n
theorem duK_lt {n s k : Nat} (hk : k ≤ n) : duK n s k < 2 ^ n := orN_lt fun i hi _ => pow_lt_len (by omega)
theorem duK_in {n s k : Nat} (h : s.testBit k = true) : duK n s (k + 1) = duK n s k := orN_no (p := fun i => !s.testBit i) (by simp [h])
theorem duK_out {n s k : Nat} (h : s.testBit k = false) : duK n s (k + 1) = duK n s k ||| 2 ^ (n - 1 - k) := orN_yes (p := fun i => !s.testBit i) (by simp [h])
def ansDU (xs : List Int) (s : Int) (f : Nat → Nat) : Int := if okIdeal xs s then (duN xs.length (f s.toNat) : Int) else 0
theorem ansDU_no {xs : List Int} {s : Int} {f : Nat → Nat} (h : okIdeal xs s = false) : ansDU xs s f = 0 := by simp [ansDU, h]
theorem ansDU_yes {xs : List Int} {z : Nat} {f : Nat → Nat} (h : okIdeal xs z = true) : ansDU xs z f = (duN xs.length (f z) : Int) := by simp [ansDU, h]
set_option maxHeartbeats 800000 in
theorem rvDual_any (v : Value) (xs : List Int) (s : Nat) (w : World) (hv : Ints w v xs) (hl10 : xs.length ≤ 10) (hs : s < 1024) :
    Calls Tryz.prog 76 #[.agg #[v], .int .i64 s] w fun r w' => r = .returned (.int .i64 (duN xs.length s : Nat)) ∧ Below w.heap.size w w' := by
  have HEnd : Hid (duN xs.length s = duK xs.length s xs.length) := hid rfl
  have HLt := hid (fun k (hk : k ≤ xs.length) => lt1024 (duK_lt (n := xs.length) (s := s) hk) hl10)
  have H0 : Hid (duK xs.length s 0 = 0) := hid rfl
  obtain ⟨A, c, rfl, -⟩ := hv
  obtain ⟨n, hn⟩ : ∃ n, xs.length = n := ⟨_, rfl⟩
  rw [hn] at HEnd HLt H0 hl10 ⊢
  clear hn
  go_enter Tryz.func76, Tryz.ntmps76
  have HB := hid (below_alloc (Below.refl _ w) (.cells #[(.slice A n c)] 28))
  have A0 := hid (At.newAt w (.slice A n c) 28 w.heap.size (by simp))
  go_wp2
  go_loop [6, 14] (fun q i => ∃ k t : Nat, k ≤ n ∧ i = .int .i64 k ∧ q = .int .i64 t ∧ Hid (duK n s k = t)) (fun _ i => n - (intOf i).toNat)
  case atStart => exact ⟨0, 0, Nat.zero_le _, rfl, rfl, hid H0.out⟩
  case round =>
    obtain ⟨k, t, hk, rfl, rfl, HT⟩ := hrel
    by_cases hlt : k < n
    · cases hbit : s.testBit k
      · have HBit := hid hbit
        have ht : t < 1024 := by rw [← HT.out]; exact HLt.out k hk
        obtain ⟨m, hm⟩ : ∃ m, n - 1 - k = m := ⟨_, rfl⟩
        have hmi : (n : Int) - 1 - k = (m : Int) := by omega
        have wp := wrap_pow' m (by omega)
        have hor := or_pow t m ht (by omega)
        have HN : Hid (duK n s (k + 1) = t ||| 2 ^ m) := hid (by rw [duK_out hbit, HT.out, hm])
        clear hbit ht hm
        go_wp2_with (go_at_call 130; refine (poIn_any s k (by omega) _).mono ?_; rw [HBit.out]; rintro e w' ⟨rfl, rfl⟩)
        go_round
        case rel => exact ⟨k + 1, _, by omega, by go_num, rfl, hid (by rw [HN.out])⟩
        case measure => simp [intOf]; omega
      · have HBit := hid hbit
        clear hbit
        go_wp2_with (go_at_call 130; refine (poIn_any s k (by omega) _).mono ?_; rw [HBit.out]; rintro e w' ⟨rfl, rfl⟩)
        go_round
        case rel => exact ⟨k + 1, t, by omega, by go_num, rfl, hid (by rw [duK_in HBit.out, HT.out])⟩
        case measure => simp [intOf]; omega
    · obtain rfl : k = n := by omega
      go_wp2
      go_ret
      exact ⟨ret_int (by rw [HEnd.out, HT.out]), HB.out⟩
set_option maxHeartbeats 1600000 in
theorem implDualIdeal_any (v : Value) (xs : List Int) (s : Int) (w : World) (hv : Ints w v xs) (hl : xs.length ≤ 1048576) (wf : (Lit.int .i64 s).wf = true) :
    Calls Tryz.prog 104 #[.agg #[v], .int .i64 s] w fun r w' => r = .returned (.tuple #[.int .i64 (ansDU xs s id), .bool (okIdeal xs s)]) ∧ Below w.heap.size w w' := by
  have HV := hid hv
  clear hv wf
  go_enter Tryz.func104, Tryz.ntmps104
  have HB := hid (below_alloc (Below.refl _ w) (.cells #[v] 28))
  have A0 := hid (At.newAt w v 28 w.heap.size (by simp))
  go_wp2_with fail
  refine (hasIdeal_any _ xs s _ (HV.out.below HB.out) hl).mono ?_
  rintro e w' ⟨rfl, hb⟩
  replace HB := hid (below_to HB.out hb)
  replace A0 := hid (A0.out.below hb)
  clear hb
  cases hq : okIdeal xs s
  · have HO := hid hq
    clear hq
    have ebox0 := A0.out.1
    go_wp2
    go_ret2
    exact ⟨ret_ib (ansDU_no HO.out).symm HO.out.symm, HB.out⟩
  · have HO := hid hq
    obtain ⟨z, rfl, hg, hz, hi⟩ := okIdeal_all hq
    have hl10 := (good_length hg).2
    have hz10 := lt1024 hz hl10
    have HAn := hid (ansDU_yes (f := id) hq)
    have HEnd : Hid (duN xs.length (id z) = duK xs.length z xs.length) := hid rfl
    have HLt := hid (fun k (hk : k ≤ xs.length) => lt1024 (duK_lt (n := xs.length) (s := z) hk) hl10)
    have H0 : Hid (duK xs.length z 0 = 0) := hid rfl
    obtain ⟨A, c, rfl, -⟩ := HV.out
    have hbx := A0.out.1
    obtain ⟨n, hn⟩ : ∃ n, xs.length = n := ⟨_, rfl⟩
    rw [hn] at HEnd HLt H0 hl10 HAn hbx
    clear hq hg hz hi hn
    go_wp2
    go_loop [6, 15] (fun q i => ∃ k t : Nat, k ≤ n ∧ i = .int .i64 k ∧ q = .int .i64 t ∧ Hid (duK n z k = t)) (fun _ i => n - (intOf i).toNat)
    case atStart => exact ⟨0, 0, Nat.zero_le _, rfl, rfl, hid H0.out⟩
    case round =>
      obtain ⟨k, t, hk, rfl, rfl, HT⟩ := hrel
      by_cases hlt : k < n
      · cases hbit : z.testBit k
        · have HBit := hid hbit
          have ht : t < 1024 := by rw [← HT.out]; exact HLt.out k hk
          obtain ⟨m, hm⟩ : ∃ m, n - 1 - k = m := ⟨_, rfl⟩
          have hmi : (n : Int) - 1 - k = (m : Int) := by omega
          have wp := wrap_pow' m (by omega)
          have hor := or_pow t m ht (by omega)
          have HN : Hid (duK n z (k + 1) = t ||| 2 ^ m) := hid (by rw [duK_out hbit, HT.out, hm])
          clear hbit ht hm
          go_wp2_with (go_at_call 165; refine (hasElement_any z k (by omega) (by omega) _).mono ?_; rw [HBit.out]; rintro e w' ⟨rfl, rfl⟩)
          go_round
          case rel => exact ⟨k + 1, _, by omega, by go_num, rfl, hid (by rw [HN.out])⟩
          case measure => simp [intOf]; omega
        · have HBit := hid hbit
          clear hbit
          go_wp2_with (go_at_call 165; refine (hasElement_any z k (by omega) (by omega) _).mono ?_; rw [HBit.out]; rintro e w' ⟨rfl, rfl⟩)
          go_round
          case rel => exact ⟨k + 1, t, by omega, by go_num, rfl, hid (by rw [duK_in HBit.out, HT.out])⟩
          case measure => simp [intOf]; omega
      · obtain rfl : k = n := by omega
        clear hbx
        go_wp2
        go_ret2
        exact ⟨ret_ib (by rw [HAn.out, HEnd.out, HT.out]) HO.out.symm, HB.out⟩
end Go.Proofs.YtbmhaamenjhjfaaGreatDoor
namespace Go.Proofs.YtbmhaamenjhjfaaGreatDoor
open Go.RowKit Go.WideShapes Go.ChangeShapes
set_option linter.unusedVariables false
theorem duN_bit {n s e : Nat} : (duN n s).testBit e = true ↔ e < n ∧ s.testBit (n - 1 - e) = false := by
  unfold duN duK
  rw [orN_testBit]
  constructor
  · rintro ⟨i, hi, hp, hb⟩
    rw [Nat.testBit_two_pow] at hb
    have hie : n - 1 - i = e := by simpa using hb
    refine ⟨by omega, ?_⟩
    rw [show n - 1 - e = i by omega]
    simpa using hp
  · rintro ⟨h1, h2⟩
    exact ⟨n - 1 - e, by omega, by simp [h2], by rw [Nat.testBit_two_pow]; simp; omega⟩
theorem duN_lt' (n s : Nat) : duN n s < 2 ^ n := by
  unfold duN duK
  exact orN_lt fun i hi _ => pow_lt_len (by omega)
theorem duN_ideal {xs : List Int} (hg : good xs = true) {s : Nat} (hi : holdsIdeal xs s = true) : holdsIdeal (dualL xs) (duN xs.length s) = true := by
  rw [holdsIdeal_row]
  intro e he hb j hj
  rw [dualD_length hg] at he
  obtain ⟨h1, h2⟩ := (dualD_row hg he).1 hj
  obtain ⟨-, h3⟩ := duN_bit.1 hb
  refine duN_bit.2 ⟨by omega, ?_⟩
  rw [Bool.eq_false_iff]
  intro hc
  have := holdsIdeal_row.1 hi (xs.length - 1 - j) (by omega) hc _ h2
  rw [h3] at this; cases this
theorem duN_ok {xs : List Int} (hg : good xs = true) {s : Nat} (hi : holdsIdeal xs s = true) : okIdeal (dualL xs) ((duN xs.length s : Nat) : Int) = true := by
  rw [okIdeal, okSet_nat (dualD_good hg) (by rw [dualD_length hg]; exact duN_lt' _ _), Int.toNat_natCast, duN_ideal hg hi]; rfl
end Go.Proofs.YtbmhaamenjhjfaaGreatDoor
