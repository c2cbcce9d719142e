/- Sweeps of ranks in the program: the lists, the closures, the words. (by genrvj.py) -/
import Derived.Test.YtkalpichninncabRvI
import Derived.Test.YtkalpichninncabSwd
import Derived.Laws.EntriesVeiled
namespace Go.Proofs.Ytkalpichninncab
open Go.RowKit Go.WideShapes Go.ChangeShapes
set_option linter.unusedVariables false

theorem sweepInfo : (Try.prog.info? 43).map (·.size) = some 2 := by kernel_rfl

theorem rising1_any (a b : Nat) (w : World) (ha : a ≤ 10) (hb : b ≤ 9) :
    Calls Try.prog 69 #[.int .i64 a, .int .i64 b, .int .i64 1] w fun (r : Ending) w' => ∃ q, r = Ending.returned q ∧ OwnI 3 w' w.heap.size q (rnL a b) ∧ Below w.heap.size w w' := by
  have HF : Hid (∀ k, mapT (fun j => ((a + j : Nat) : Int)) (k + 1) = mapT (fun j => ((a + j : Nat) : Int)) k ++ [((a + k : Nat) : Int)]) := hid fun k => mapT_succ _ k
  have HL := hid (mapT_length (fun j => ((a + j : Nat) : Int)))
  have HE : Hid (∀ k, k = b + 1 - a → mapT (fun j => ((a + j : Nat) : Int)) k = rnL a b) := hid fun k hk => by subst hk; rfl
  have H0 : Hid (mapT (fun j => ((a + j : Nat) : Int)) 0 = []) := hid rfl
  obtain ⟨F, hF⟩ : ∃ F, mapT (fun j => ((a + j : Nat) : Int)) = F := ⟨_, rfl⟩
  rw [hF] at HF HL HE H0
  clear hF
  go_enter Try.func69, Try.ntmps69
  go_wp2
  go_loopw [7, 8] (fun q i wr => ∃ k x : Nat, x = a + k ∧ x ≤ 11 ∧ (x ≤ b ∨ k = b + 1 - a) ∧ i = .int .i64 x ∧ OwnI 3 wr w.heap.size q (F k) ∧ Below w.heap.size w wr) (fun _ i _ => b + 1 - (intOf i).toNat)
  case atStart => exact ⟨0, a, by omega, by omega, by omega, rfl, by rw [H0.out]; exact OwnI.nil _ _ _, Below.refl _ _⟩
  case round =>
    obtain ⟨k, x, hx, hx1, hd, rfl, ho, hb1⟩ := hrel
    have HO := hid ho
    have HB1 := hid hb1
    have hz := hb1.size
    by_cases hlt : x ≤ b
    · have hl48 : (F k).length < 1048576 := by rw [HL.out]; omega
      have HS : Hid (F (k + 1) = F k ++ [(x : Int)]) := hid (by rw [HF.out, hx])
      have HX := hid hx
      have HX2 : Hid (x + 1 ≤ b ∨ k + 1 = b + 1 - a) := hid (by omega)
      clear ho hb1 hx hd
      go_wp2_with (at_builtin; refine wpList_append_int rfl _ _ 22 3 rfl Try.underlying22 Try.info3 w.heap.size _ _ x rfl HO.out rfl rfl hl48 hz ?_; rintro q2 w6 ho6 hb6)
      go_roundw
      case rel => exact ⟨k + 1, x + 1, by have := HX.out; omega, by omega, HX2.out, by go_num, (by rw [HS.out]; exact ho6), HB1.out.trans hb6⟩
      case measure => simp [intOf]; omega
    · have HEq := hid (HE.out k (by omega))
      clear ho hb1 hx hd
      go_wp2
      go_ret
      exact ⟨_, rfl, by rw [← HEq.out]; exact HO.out, HB1.out⟩

theorem rising2_any (a b : Nat) (w : World) (ha : a ≤ 10) (hb : b ≤ 9) :
    Calls Try.prog 69 #[.int .i64 a, .int .i64 b, .int .i64 2] w fun (r : Ending) w' => ∃ q, r = Ending.returned q ∧ OwnI 3 w' w.heap.size q (rs2 a b) ∧ Below w.heap.size w w' := by
  have HF : Hid (∀ k, mapT (fun j => ((a + 2 * j : Nat) : Int)) (k + 1) = mapT (fun j => ((a + 2 * j : Nat) : Int)) k ++ [((a + 2 * k : Nat) : Int)]) := hid fun k => mapT_succ _ k
  have HL := hid (mapT_length (fun j => ((a + 2 * j : Nat) : Int)))
  have HE : Hid (∀ k, k = (b + 2 - a) / 2 → mapT (fun j => ((a + 2 * j : Nat) : Int)) k = rs2 a b) := hid fun k hk => by subst hk; rfl
  have H0 : Hid (mapT (fun j => ((a + 2 * j : Nat) : Int)) 0 = []) := hid rfl
  obtain ⟨F, hF⟩ : ∃ F, mapT (fun j => ((a + 2 * j : Nat) : Int)) = F := ⟨_, rfl⟩
  rw [hF] at HF HL HE H0
  clear hF
  go_enter Try.func69, Try.ntmps69
  go_wp2
  go_loopw [7, 8] (fun q i wr => ∃ k x : Nat, x = a + 2 * k ∧ x ≤ 11 ∧ (x ≤ b ∨ k = (b + 2 - a) / 2) ∧ i = .int .i64 x ∧ OwnI 3 wr w.heap.size q (F k) ∧ Below w.heap.size w wr) (fun _ i _ => b + 1 - (intOf i).toNat)
  case atStart => exact ⟨0, a, by omega, by omega, by omega, rfl, by rw [H0.out]; exact OwnI.nil _ _ _, Below.refl _ _⟩
  case round =>
    obtain ⟨k, x, hx, hx1, hd, rfl, ho, hb1⟩ := hrel
    have HO := hid ho
    have HB1 := hid hb1
    have hz := hb1.size
    by_cases hlt : x ≤ b
    · have hl48 : (F k).length < 1048576 := by rw [HL.out]; omega
      have HS : Hid (F (k + 1) = F k ++ [(x : Int)]) := hid (by rw [HF.out, hx])
      have HX := hid hx
      have HX2 : Hid (x + 2 ≤ b ∨ k + 1 = (b + 2 - a) / 2) := hid (by omega)
      clear ho hb1 hx hd
      go_wp2_with (at_builtin; refine wpList_append_int rfl _ _ 22 3 rfl Try.underlying22 Try.info3 w.heap.size _ _ x rfl HO.out rfl rfl hl48 hz ?_; rintro q2 w6 ho6 hb6)
      go_roundw
      case rel => exact ⟨k + 1, x + 2, by have := HX.out; omega, by omega, HX2.out, by go_num, (by rw [HS.out]; exact ho6), HB1.out.trans hb6⟩
      case measure => simp [intOf]; omega
    · have HEq := hid (HE.out k (by omega))
      clear ho hb1 hx hd
      go_wp2
      go_ret
      exact ⟨_, rfl, by rw [← HEq.out]; exact HO.out, HB1.out⟩

theorem falling_any (a b : Nat) (w : World) (ha : a ≤ 9) (hb : b ≤ 10) :
    Calls Try.prog 62 #[.int .i64 a, .int .i64 b] w fun (r : Ending) w' => ∃ q, r = Ending.returned q ∧ OwnI 3 w' w.heap.size q (fsL a b) ∧ Below w.heap.size w w' := by
  go_enter Try.func62, Try.ntmps62
  go_wp2_with fail
  refine (rising1_any b a _ hb ha).mono ?_
  rintro e w1 ⟨u, rfl, ho, hb⟩
  have HO := hid ho
  have HB := hid hb
  have HU := hid ho.blockLt
  obtain ⟨uA, un, uc, rfl⟩ := ho.shape3
  clear hb ho
  go_wp2_with fail
  refine (reverseI_any _ (rnL b a) _ _ HO.out (by rw [rnL_length]; omega)).mono ?_
  rintro e w2 ⟨rfl, ho, hg⟩
  have HO2 := hid ho
  have HG2 := hid hg
  clear ho hg
  go_wp2
  go_ret
  exact ⟨_, rfl, by rw [← rnL_rev]; exact HO2.out, below_grown HB.out HG2.out (fun k hk => (HU.out k hk).1)⟩

theorem cloVac_any (a h k : Nat) (w : World) (hA : At w a (.int .i64 h)) (h9 : h ≤ 9) (hk : k ≤ h) :
    Calls Try.prog 61 #[.int .i64 k, .pointer (some ⟨a, 0, none⟩)] w fun (r : Ending) w' => ∃ q, r = Ending.returned q ∧ OwnI 3 w' w.heap.size q (fVac h k) ∧ Below w.heap.size w w' := by
  have hc := hA.1
  clear hA
  go_enter Try.func61, Try.ntmps61
  go_wp2_with fail
  clear hc
  refine (falling_any h k _ h9 (by omega)).mono ?_
  rintro e w1 ⟨u, rfl, ho, hb⟩
  have HO := hid ho
  have HB := hid hb
  clear ho hb
  go_wp2
  go_ret
  exact ⟨_, rfl, HO.out, HB.out⟩
theorem swVac_any (h : Nat) (w : World) (h9 : h ≤ 9) :
    Calls Try.prog 33 #[.int .i64 h] w fun (r : Ending) w' => ∃ a, r = Ending.returned (.agg #[.int .i64 (cVac h : Nat), (.func (.func 61) #[] #[.pointer (some ⟨a, 0, none⟩)])]) ∧ At w' a (.int .i64 h) ∧ Below w.heap.size w w' := by
  go_enter Try.func33, Try.ntmps33
  have HB := hid (below_alloc (Below.refl _ w) (.cells #[(.int .i64 h)] 3))
  have A0 := hid (At.newAt w (.int .i64 h) 3 w.heap.size (by simp))
  have HR1 := hid (Blk.newAt (w.alloc (.cells #[.int .i64 h] 3)) 43 #[.int .i64 ((h : Int) + 1), (.func (.func 61) #[] #[.pointer (some ⟨w.heap.size, 0, none⟩)])] (w.heap.size + 1) (by simp))
  have HA1 := hid (A0.out.alloc (.cells #[.int .i64 ((h : Int) + 1), (.func (.func 61) #[] #[.pointer (some ⟨w.heap.size, 0, none⟩)])] 43))
  have HB1 := hid (below_alloc HB.out (.cells #[.int .i64 ((h : Int) + 1), (.func (.func 61) #[] #[.pointer (some ⟨w.heap.size, 0, none⟩)])] 43))
  go_wp2
  exact bodyPost_ret (results_cell_row rfl _ _ (w.heap.size + 1) 43 #[.int .i64 ((h : Int) + 1), (.func (.func 61) #[] #[.pointer (some ⟨w.heap.size, 0, none⟩)])] (0, 0) _ rfl HR1.out Try.underlying43 rfl sweepInfo) rfl ⟨w.heap.size, rfl, HA1.out, HB1.out⟩
set_option maxHeartbeats 800000 in
theorem wordVac_any (a h : Nat) (w : World) (hA : At w a (.int .i64 h)) (h9 : h ≤ 9) :
    Calls Try.prog 34 #[.agg #[.int .i64 (cVac h : Nat), (.func (.func 61) #[] #[.pointer (some ⟨a, 0, none⟩)])]] w fun (r : Ending) w' => ∃ q, r = Ending.returned q ∧ OwnI 3 w' w.heap.size q (wVac h) ∧ Below w.heap.size w w' := by
  have HA := hid hA
  have HEnd : Hid (wVac h = swL (fVac h) (cVac h)) := hid rfl
  have HLn := hid (fun k (hk : k ≤ 10) => sw_length (fVac h) (n := k) (fun k => fVac_length k h9) hk)
  have HFl := hid (fun k => fVac_length (h := h) k h9)
  have HSw := hid (swL_succ (fVac h))
  have HS0 := hid (swL_zero (fVac h))
  have hc10 : cVac h ≤ 10 := by unfold cVac; omega
  have HCl := hid (fun k W (hk : k < cVac h) (hW : At W a (.int .i64 h)) => cloVac_any a h k W hW h9 (by unfold cVac at hk; omega))
  obtain ⟨n, hn⟩ : ∃ n, cVac h = n := ⟨_, rfl⟩
  obtain ⟨F, hF⟩ : ∃ F, fVac h = F := ⟨_, rfl⟩
  rw [hn, hF] at HEnd
  rw [hF] at HLn HFl HSw HS0
  rw [hn] at hc10 ⊢
  rw [hn] at HCl
  have HF := hid hF
  rw [hF] at HCl
  clear hA hn hF
  go_enter Try.func34, Try.ntmps34
  have hbx := (Blk.new w 43 #[.int .i64 n, (.func (.func 61) #[] #[.pointer (some ⟨a, 0, none⟩)])]).cell 0
  go_wp2
  clear hbx
  go_loopw [3, 7] (fun q i wr => ∃ k : Nat, k ≤ n ∧ i = .int .i64 k ∧ OwnI 3 wr (w.heap.size + 1) q (swL F k) ∧ Below (w.heap.size + 1) (w.alloc (.cells #[.int .i64 n, (.func (.func 61) #[] #[.pointer (some ⟨a, 0, none⟩)])] 43)) wr) (fun _ i _ => n - (intOf i).toNat)
  case atStart => exact ⟨0, Nat.zero_le _, rfl, by rw [HS0.out]; exact OwnI.nil _ _ _, Below.refl _ _⟩
  case round =>
    obtain ⟨k, hk, rfl, ho, hb⟩ := hrel
    have HO := hid ho
    have HB1 := hid hb
    by_cases hlt : k < n
    · have hz1 : w.heap.size + 1 ≤ wr.heap.size := by have := hb.size; simpa using this
      have hb1 : wr.cell? ⟨w.heap.size, 1, none⟩ = some (.func (.func 61) #[] #[.pointer (some ⟨a, 0, none⟩)]) := by rw [box_cell hb 1]; rfl
      have HA1 := hid (HA.out.below (below_box hb))
      have hl1 := HLn.out k (by omega)
      have hl2 := HFl.out k
      clear ho hb
      go_wp2_with fail
      clear hb1
      refine (HCl.out k _ hlt HA1.out).mono ?_
      rintro e w2 ⟨u, rfl, ho2, hb2⟩
      have HU := hid ho2.ints
      have HO2 := hid (HO.out.below hb2)
      have HB2 := hid (HB1.out.trans (hb2.mono hz1))
      have hz2 : w.heap.size + 1 ≤ w2.heap.size := by have := hb2.size; omega
      obtain ⟨uA, un, uc, rfl⟩ := ho2.shape3
      have hl3 : (swL F k).length + (F k).length ≤ 1048576 := by omega
      clear ho2 hb2 hl1 hl2
      go_wp2_with (at_builtin; refine wpList_append_ints rfl _ _ 22 3 rfl Try.underlying22 Try.info3 (w.heap.size + 1) _ _ rfl HO2.out _ _ rfl HU.out hl3 hz2 ?_; intro q6 w6 ho6 hb6)
      go_roundw
      case rel => exact ⟨k + 1, by omega, by go_num, (by rw [HSw.out]; exact ho6), HB2.out.trans hb6⟩
      case measure => simp [intOf]; omega
    · obtain rfl : k = n := by omega
      clear ho hb
      go_wp2
      go_ret
      exact ⟨_, rfl, by rw [HEnd.out]; exact HO.out.mono (Nat.le_succ _), below_box HB1.out⟩

theorem cloGyr_any (a h k : Nat) (w : World) (hA : At w a (.int .i64 h)) (h9 : h ≤ 9) (hk : k ≤ 1) :
    Calls Try.prog 68 #[.int .i64 k, .pointer (some ⟨a, 0, none⟩)] w fun (r : Ending) w' => ∃ q, r = Ending.returned q ∧ OwnI 3 w' w.heap.size q (fGyr h k) ∧ Below w.heap.size w w' := by
  have hc := hA.1
  clear hA
  go_enter Try.func68, Try.ntmps68
  go_wp2_with fail
  clear hc
  refine (rising2_any k h _ (by omega) h9).mono ?_
  rintro e w1 ⟨u, rfl, ho, hb⟩
  have HO := hid ho
  have HB := hid hb
  clear ho hb
  go_wp2
  go_ret
  exact ⟨_, rfl, HO.out, HB.out⟩
theorem swGyr_any (h : Nat) (w : World) (h9 : h ≤ 9) :
    Calls Try.prog 45 #[.int .i64 h] w fun (r : Ending) w' => ∃ a, r = Ending.returned (.agg #[.int .i64 (cGyr h : Nat), (.func (.func 68) #[] #[.pointer (some ⟨a, 0, none⟩)])]) ∧ At w' a (.int .i64 h) ∧ Below w.heap.size w w' := by
  go_enter Try.func45, Try.ntmps45
  have HB := hid (below_alloc (Below.refl _ w) (.cells #[(.int .i64 h)] 3))
  have A0 := hid (At.newAt w (.int .i64 h) 3 w.heap.size (by simp))
  have HR1 := hid (Blk.newAt (w.alloc (.cells #[.int .i64 h] 3)) 43 #[.int .i64 2, (.func (.func 68) #[] #[.pointer (some ⟨w.heap.size, 0, none⟩)])] (w.heap.size + 1) (by simp))
  have HA1 := hid (A0.out.alloc (.cells #[.int .i64 2, (.func (.func 68) #[] #[.pointer (some ⟨w.heap.size, 0, none⟩)])] 43))
  have HB1 := hid (below_alloc HB.out (.cells #[.int .i64 2, (.func (.func 68) #[] #[.pointer (some ⟨w.heap.size, 0, none⟩)])] 43))
  go_wp2
  exact bodyPost_ret (results_cell_row rfl _ _ (w.heap.size + 1) 43 #[.int .i64 2, (.func (.func 68) #[] #[.pointer (some ⟨w.heap.size, 0, none⟩)])] (0, 0) _ rfl HR1.out Try.underlying43 rfl sweepInfo) rfl ⟨w.heap.size, rfl, HA1.out, HB1.out⟩
set_option maxHeartbeats 800000 in
theorem wordGyr_any (a h : Nat) (w : World) (hA : At w a (.int .i64 h)) (h9 : h ≤ 9) :
    Calls Try.prog 34 #[.agg #[.int .i64 (cGyr h : Nat), (.func (.func 68) #[] #[.pointer (some ⟨a, 0, none⟩)])]] w fun (r : Ending) w' => ∃ q, r = Ending.returned q ∧ OwnI 3 w' w.heap.size q (wGyr h) ∧ Below w.heap.size w w' := by
  have HA := hid hA
  have HEnd : Hid (wGyr h = swL (fGyr h) (cGyr h)) := hid rfl
  have HLn := hid (fun k (hk : k ≤ 10) => sw_length (fGyr h) (n := k) (fun k => fGyr_length k h9) hk)
  have HFl := hid (fun k => fGyr_length (h := h) k h9)
  have HSw := hid (swL_succ (fGyr h))
  have HS0 := hid (swL_zero (fGyr h))
  have hc10 : cGyr h ≤ 10 := by unfold cGyr; omega
  have HCl := hid (fun k W (hk : k < cGyr h) (hW : At W a (.int .i64 h)) => cloGyr_any a h k W hW h9 (by unfold cGyr at hk; omega))
  obtain ⟨n, hn⟩ : ∃ n, cGyr h = n := ⟨_, rfl⟩
  obtain ⟨F, hF⟩ : ∃ F, fGyr h = F := ⟨_, rfl⟩
  rw [hn, hF] at HEnd
  rw [hF] at HLn HFl HSw HS0
  rw [hn] at hc10 ⊢
  rw [hn] at HCl
  have HF := hid hF
  rw [hF] at HCl
  clear hA hn hF
  go_enter Try.func34, Try.ntmps34
  have hbx := (Blk.new w 43 #[.int .i64 n, (.func (.func 68) #[] #[.pointer (some ⟨a, 0, none⟩)])]).cell 0
  go_wp2
  clear hbx
  go_loopw [3, 7] (fun q i wr => ∃ k : Nat, k ≤ n ∧ i = .int .i64 k ∧ OwnI 3 wr (w.heap.size + 1) q (swL F k) ∧ Below (w.heap.size + 1) (w.alloc (.cells #[.int .i64 n, (.func (.func 68) #[] #[.pointer (some ⟨a, 0, none⟩)])] 43)) wr) (fun _ i _ => n - (intOf i).toNat)
  case atStart => exact ⟨0, Nat.zero_le _, rfl, by rw [HS0.out]; exact OwnI.nil _ _ _, Below.refl _ _⟩
  case round =>
    obtain ⟨k, hk, rfl, ho, hb⟩ := hrel
    have HO := hid ho
    have HB1 := hid hb
    by_cases hlt : k < n
    · have hz1 : w.heap.size + 1 ≤ wr.heap.size := by have := hb.size; simpa using this
      have hb1 : wr.cell? ⟨w.heap.size, 1, none⟩ = some (.func (.func 68) #[] #[.pointer (some ⟨a, 0, none⟩)]) := by rw [box_cell hb 1]; rfl
      have HA1 := hid (HA.out.below (below_box hb))
      have hl1 := HLn.out k (by omega)
      have hl2 := HFl.out k
      clear ho hb
      go_wp2_with fail
      clear hb1
      refine (HCl.out k _ hlt HA1.out).mono ?_
      rintro e w2 ⟨u, rfl, ho2, hb2⟩
      have HU := hid ho2.ints
      have HO2 := hid (HO.out.below hb2)
      have HB2 := hid (HB1.out.trans (hb2.mono hz1))
      have hz2 : w.heap.size + 1 ≤ w2.heap.size := by have := hb2.size; omega
      obtain ⟨uA, un, uc, rfl⟩ := ho2.shape3
      have hl3 : (swL F k).length + (F k).length ≤ 1048576 := by omega
      clear ho2 hb2 hl1 hl2
      go_wp2_with (at_builtin; refine wpList_append_ints rfl _ _ 22 3 rfl Try.underlying22 Try.info3 (w.heap.size + 1) _ _ rfl HO2.out _ _ rfl HU.out hl3 hz2 ?_; intro q6 w6 ho6 hb6)
      go_roundw
      case rel => exact ⟨k + 1, by omega, by go_num, (by rw [HSw.out]; exact ho6), HB2.out.trans hb6⟩
      case measure => simp [intOf]; omega
    · obtain rfl : k = n := by omega
      clear ho hb
      go_wp2
      go_ret
      exact ⟨_, rfl, by rw [HEnd.out]; exact HO.out.mono (Nat.le_succ _), below_box HB1.out⟩
end Go.Proofs.Ytkalpichninncab
