/- Texts of numbers. -/
import Derived.Test.YtiodligebnnodaaDoorCovers
import Derived.Laws.Concat
import Derived.Laws.IdiomStrings
namespace Go.Proofs.YtiodligebnnodaaDoor
open Go.RowKit Go.WideShapes Go.ChangeShapes
set_option linter.unusedVariables false

def sB (l : List UInt8) : ByteArray := ⟨l.toArray⟩
theorem sB_size (l : List UInt8) : (sB l).size = l.length := by show l.toArray.size = _; simp
theorem sB_app (a b : List UInt8) : sB a ++ sB b = sB (a ++ b) := by
  unfold sB
  rw [ByteArray.mk_append_mk] <;> simp
theorem run_sB (a b : List UInt8) (h : a.length + b.length ≤ 1000000) (w : World) : (Op.stringOp .add (sB a) (sB b)).run Tryd.prog w = .ok (.string (sB (a ++ b))) w := by
  rw [run_string_add_sum w _ _ (by rw [sB_size, sB_size]; omega), sB_app]
theorem run_sB1 (a : List UInt8) (c : UInt8) (h : a.length ≤ 900000) (w : World) : (Op.stringOp .add (sB a) ⟨#[c]⟩).run Tryd.prog w = .ok (.string (sB (a ++ [c]))) w := run_sB a [c] (by simp <;> omega) w
def numL (n : Nat) : List UInt8 := if n < 10 then [UInt8.ofNat (48 + n)] else [49, 48]
theorem numL_length (n : Nat) : (numL n).length ≤ 2 := by unfold numL; split <;> simp
theorem ret_s {a b : ByteArray} (h : a = b) : Ending.returned (.string a) = .returned (.string b) := by rw [h]
set_option maxRecDepth 100000 in
theorem small_lo (n : Nat) (w : World) (h : n ≤ 10) :
    Calls Tryd.prog 74 #[.int .i64 n] w fun r w' => r = .returned (.string (sB (numL n))) ∧ w = w' := by
  rcases (by omega : n = 0 ∨ n = 1 ∨ n = 2 ∨ n = 3 ∨ n = 4 ∨ n = 5 ∨ n = 6 ∨ n = 7 ∨ n = 8 ∨ n = 9 ∨ n = 10) with rfl | rfl | rfl | rfl | rfl | rfl | rfl | rfl | rfl | rfl | rfl
  all_goals clear h
  all_goals go_enter Tryd.func74, Tryd.ntmps74
  all_goals go_wp2
  all_goals go_ret
  all_goals exact ⟨ret_s rfl, rfl⟩
set_option maxRecDepth 100000 in
theorem formatInt_lo (n : Nat) (w : World) (h : n ≤ 10) :
    Calls Tryd.prog 63 #[.int .i64 n, .int .i64 10] w fun r w' => r = .returned (.string (sB (numL n))) ∧ w = w' := by
  have h0 : (0 : Int) ≤ (n : Int) := by omega
  have h1 : (n : Int) < 100 := by omega
  have H := hid (small_lo n w h)
  go_enter Tryd.func63, Tryd.ntmps63
  go_wp2_with (go_at_call 74; refine H.out.mono ?_; rintro e w' ⟨rfl, rfl⟩)
  go_ret
  exact ⟨rfl, rfl⟩
set_option maxRecDepth 100000 in
theorem itoaI_lo (n : Nat) (w : World) (h : n ≤ 10) :
    Calls Tryd.prog 46 #[.int .i64 n] w fun r w' => r = .returned (.string (sB (numL n))) ∧ w = w' := by
  have H := hid (formatInt_lo n w h)
  go_enter Tryd.func46, Tryd.ntmps46
  go_wp2_with (go_at_call 63; refine H.out.mono ?_; rintro e w' ⟨rfl, rfl⟩)
  go_ret
  exact ⟨rfl, rfl⟩
set_option maxRecDepth 100000 in
theorem itoa_lo (n : Nat) (w : World) (h : n ≤ 10) :
    Calls Tryd.prog 29 #[.int .i64 n] w fun r w' => r = .returned (.string (sB (numL n))) ∧ w = w' := by
  have H := hid (itoaI_lo n w h)
  go_enter Tryd.func29, Tryd.ntmps29
  go_wp2_with (go_at_call 46; refine H.out.mono ?_; rintro e w' ⟨rfl, rfl⟩)
  go_ret
  exact ⟨rfl, rfl⟩
theorem convAt (n : Nat) (h : n < 10) (w : World) (b : Nat) (hc : w.cell? ⟨b, 0, none⟩ = some (.int .u8 (48 + (n : Int)))) :
    (convert 61 9 (.slice (some ⟨b, 0, none⟩) 1 1)).run Tryd.prog w = .ok (.string (sB [UInt8.ofNat (48 + n)])) w :=
  run_convert_bytes_back (P := Tryd.prog) _ 61 9 5 ⟨b, 0, none⟩ 1 [UInt8.ofNat (48 + n)] Tryd.underlying61 Tryd.underlying5 Tryd.underlying9 (by
    intro j hj
    have h0 : j = 0 := by simpa using hj
    subst h0
    have e : ([UInt8.ofNat (48 + n)][0].toNat : Int) = 48 + (n : Int) := by
      show (((48 + n) % 256 : Nat) : Int) = _
      omega
    rw [e]
    exact hc)
theorem conv1 (n : Nat) (h : n < 10) (w : World) :
    (convert 61 9 (.slice (some ⟨w.heap.size, 0, none⟩) 1 1)).run Tryd.prog (w.alloc (.cells #[.int .u8 (48 + (n : Int))] 5)) = .ok (.string (sB [UInt8.ofNat (48 + n)])) (w.alloc (.cells #[.int .u8 (48 + (n : Int))] 5)) :=
  convAt n h _ _ ((Blk.new w 5 #[.int .u8 (48 + (n : Int))]).cell 0)
set_option maxRecDepth 100000 in
theorem l1Num_lo (n : Nat) (w : World) (h : n < 10) :
    Calls Tryd.prog 35 #[.int .i64 n] w fun r w' => r = .returned (.string (sB (numL n))) ∧ Below w.heap.size w w' := by
  have h' : (n : Int) < 10 := by omega
  have hcv := conv1 n h w
  have HL : Hid (numL n = [UInt8.ofNat (48 + n)]) := hid (if_pos h)
  go_enter Tryd.func35, Tryd.ntmps35
  go_wp2
  go_ret
  exact ⟨ret_s (by rw [HL.out]; simp), below_alloc (Below.refl _ _) _⟩
set_option maxRecDepth 100000 in
theorem l1Num_ten (w : World) :
    Calls Tryd.prog 35 #[.int .i64 (10 : Nat)] w fun r w' => r = .returned (.string (sB (numL 10))) ∧ Below w.heap.size w w' := by
  have hcv : ∀ W : World, (convert 61 9 (.slice (some ⟨W.heap.size, 0, none⟩) 1 1)).run Tryd.prog (W.alloc (.cells #[.int .u8 48] 5)) = .ok (.string (sB [48])) (W.alloc (.cells #[.int .u8 48] 5)) := fun W => conv1 0 (by decide) W
  have hcv2 : ∀ W : World, (convert 61 9 (.slice (some ⟨W.heap.size, 0, none⟩) 1 1)).run Tryd.prog (W.alloc (.cells #[.int .u8 48] 5)).drew = .ok (.string (sB [48])) (W.alloc (.cells #[.int .u8 48] 5)).drew := fun W => convAt 0 (by decide) _ _ ((Blk.new W 5 #[.int .u8 48]).cell 0)
  have hadd := fun W => run_sB (numL 1) [48] (by decide) W
  have hw1 : IntKind.i64.wrap 48 = 48 := by decide
  have hw2 : IntKind.u8.wrap 48 = 48 := by decide
  have hw3 : IntKind.i64.wrap 1 = 1 := by decide
  go_enter Tryd.func35, Tryd.ntmps35
  go_wp2_with fail
  go_region_with (first | (go_at_call 35; refine (l1Num_lo 1 _ (by decide)).mono ?_; rintro e w2 ⟨rfl, hb2⟩; (first | (have HB2 := hid (below_to (Below.refl w.heap.size w).drew hb2)) | (have HB2 := hid (below_to (below_alloc (Below.refl w.heap.size w).drew _) hb2))); (first | (have hcvb : (convert 61 9 (.slice (some ⟨w.heap.size, 0, none⟩) 1 1)).run Tryd.prog w2 = .ok (.string (sB [48])) w2 := convAt 0 (by decide) w2 w.heap.size (((Blk.new w.drew 5 #[.int .u8 48]).below hb2 (by simp)).cell 0)) | skip); clear hb2))
  all_goals go_wp2
  all_goals go_ret
  all_goals refine ⟨rfl, ?_⟩
  all_goals first | exact HB2.out | exact below_alloc HB2.out _ | exact HB2.out.drew | exact (below_alloc HB2.out _).drew | exact below_alloc HB2.out.drew _
theorem l1Num_any (n : Nat) (w : World) (h : n ≤ 10) :
    Calls Tryd.prog 35 #[.int .i64 n] w fun r w' => r = .returned (.string (sB (numL n))) ∧ Below w.heap.size w w' := by
  by_cases hn : n < 10
  · exact l1Num_lo n w hn
  · obtain rfl : n = 10 := by omega
    exact l1Num_ten w
end Go.Proofs.YtiodligebnnodaaDoor
