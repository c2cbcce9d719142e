/- Err -/
import Derived.Test.YtbmhaamenjhjfaaGreatDoorChecked
import Derived.WalkKit
import Derived.LaidEql
import Derived.Stop.Asserts
import Derived.RowKitTokens
import Derived.Test.YtbmhaamenjhjfaaGreatDoorPkD18
namespace Go.Proofs.YtbmhaamenjhjfaaGreatDoor
open Go.RowKit Go.WideShapes Go.ChangeShapes Go.Extern.Stop Go.Stop Go.Extern
set_option linter.unusedVariables false
theorem erNoIsF (v : Value) (xT : TypeId) (w : World) : (Instr.typeAssert (.iface 74 v) xT 186 true).run Tryz.prog w = .ok (.tuple #[.nilIface, .bool false]) w := run_typeAssert_lacksB Tryz.underlying186 (by kernel_rfl) (by kernel_rfl) v xT w
theorem erUnwrapF (v : Value) (xT : TypeId) (w : World) : (Instr.typeAssert (.iface 74 v) xT 156 true).run Tryz.prog w = .ok (.tuple #[.iface 74 v, .bool true]) w := run_typeAssert_hasB Tryz.underlying156 (by kernel_rfl) v xT w
theorem erMethodU (v : Value) (w : World) : (Go.method 186 74 v "Unwrap").run Tryz.prog w = .ok (277, v) w := by kernel_rfl
theorem errIs_lineSame (n : Int) (b : Addr) (w : World) :
    Calls Tryz.prog 55 #[.iface 74 (.agg #[.int .i64 n, .iface 269 (.pointer (some b))]), .iface 269 (.pointer (some b))] w fun e w' => e = .returned (.bool true) ∧ Below w.heap.size w w' := by
  obtain ⟨i, hi, hcmp⟩ := Option.map_eq_some_iff.1 erComp
  obtain ⟨j, hj, hjs⟩ := Option.map_eq_some_iff.1 erSize
  have h8 := @run_callFunc_extern Tryz.prog 106 _ Extern.ReflectliteType.typeOf Tryz.func106 (by kernel_rfl) (by kernel_rfl) (by kernel_rfl) (by kernel_rfl)
  have h32 := @run_callFunc_extern Tryz.prog 283 _ cmpE Tryz.func283 (by kernel_rfl) (by kernel_rfl) (by kernel_rfl) (by kernel_rfl)
  have tT := erTypeOf
  have cT := erComparable
  have mR := erMethod
  have nW := erNoIsF
  have uW := erUnwrapF
  have mU := erMethodU
  have heq := fun W : World => run_eql_iface_ptr_same (P := Tryz.prog) W b Tryz.underlying58 Tryz.underlying269 hi hcmp hj
  have hty := fun (v : Value) (W : World) => run_eql_iface_types (P := Tryz.prog) 74 269 v (.pointer (some b)) Tryz.underlying58 (by decide) W
  go_enter Tryz.func55, Tryz.ntmps55
  go_wp2
  refine wp_loop_rounds 2 ?_
  rw [rounds_succ]
  go_wp2
  rw [rounds_succ]
  go_wp2
  go_ret
  exact ⟨rfl, below_alloc (Below.refl _ _) _⟩
theorem errIs_lineOther (n : Int) (a b : Addr) (ca cb : Array Value) (ta tb : TypeId) (w : World) (hne : a ≠ b) (ha : w.heap[a.block]? = some (.cells ca ta (0, 0))) (hb : w.heap[b.block]? = some (.cells cb tb (0, 0))) :
    Calls Tryz.prog 55 #[.iface 74 (.agg #[.int .i64 n, .iface 269 (.pointer (some a))]), .iface 269 (.pointer (some b))] w fun e w' => e = .returned (.bool false) ∧ Below w.heap.size w w' := by
  obtain ⟨i, hi, hcmp⟩ := Option.map_eq_some_iff.1 erComp
  obtain ⟨j, hj, hjs⟩ := Option.map_eq_some_iff.1 erSize
  have h8 := @run_callFunc_extern Tryz.prog 106 _ Extern.ReflectliteType.typeOf Tryz.func106 (by kernel_rfl) (by kernel_rfl) (by kernel_rfl) (by kernel_rfl)
  have h32 := @run_callFunc_extern Tryz.prog 283 _ cmpE Tryz.func283 (by kernel_rfl) (by kernel_rfl) (by kernel_rfl) (by kernel_rfl)
  have tT := erTypeOf
  have cT := erComparable
  have mR := erMethod
  have nE := erNoIsE
  have uE := erNoUnwrapE
  have vE := erNoUnwrapsE
  have nW := erNoIsF
  have uW := erUnwrapF
  have mU := erMethodU
  have heq := fun (W : World) (ha : W.heap[a.block]? = some (.cells ca ta (0, 0))) (hb : W.heap[b.block]? = some (.cells cb tb (0, 0))) => run_eql_iface_ptr_other (P := Tryz.prog) W Tryz.underlying58 Tryz.underlying269 hi hcmp hj (by rw [hjs]; decide) hne ha hb
  have lta : a.block < w.heap.size := by
    rcases Nat.lt_or_ge a.block w.heap.size with h | h
    · exact h
    · rw [Array.getElem?_eq_none h] at ha; cases ha
  have ltb : b.block < w.heap.size := by
    rcases Nat.lt_or_ge b.block w.heap.size with h | h
    · exact h
    · rw [Array.getElem?_eq_none h] at hb; cases hb
  have heq2 := heq (w.alloc (.cells #[.int .i64 n, .iface 269 (.pointer (some a))] 74)) ((Below.heap_alloc w _ a.block lta).trans ha) ((Below.heap_alloc w _ b.block ltb).trans hb)
  have hty := fun (v : Value) (W : World) => run_eql_iface_types (P := Tryz.prog) 74 269 v (.pointer (some b)) Tryz.underlying58 (by decide) W
  clear heq
  go_enter Tryz.func55, Tryz.ntmps55
  go_wp2
  refine wp_loop_rounds 2 ?_
  rw [rounds_succ]
  go_wp2
  rw [rounds_succ]
  go_wp2
  go_ret
  exact ⟨rfl, below_alloc (Below.refl _ _) _⟩
end Go.Proofs.YtbmhaamenjhjfaaGreatDoor
