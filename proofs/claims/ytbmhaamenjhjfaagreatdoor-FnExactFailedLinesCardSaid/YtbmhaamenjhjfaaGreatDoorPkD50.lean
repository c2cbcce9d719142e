/- DskA ErrA FLn FailedLinesLaw -/
import Derived.Deep.DeepCutAuto
import Derived.Test.YtbmhaamenjhjfaaGreatDoorPkD36
import Derived.Test.YtbmhaamenjhjfaaGreatDoorPkD39
import Derived.Test.YtbmhaamenjhjfaaGreatDoorPkD43
namespace Go.Proofs.YtbmhaamenjhjfaaGreatDoor
open Go.RowKit Go.WideShapes Go.ChangeShapes
set_option linter.unusedVariables false
theorem heads_ne {t : List UInt8} (h : heads t = true) : t ≠ [110, 111] ∧ t ≠ [119, 104, 97, 116] := by
  constructor <;> (rintro rfl; revert h; decide)
end Go.Proofs.YtbmhaamenjhjfaaGreatDoor
namespace Go.Proofs.YtbmhaamenjhjfaaGreatDoor
open Go.RowKit Go.WideShapes Go.ChangeShapes Go.Extern.Stop Go.Stop Go.Extern
set_option linter.unusedVariables false
theorem as_nil (t : Value) (w : World) : Calls Tryz.prog 43 #[.nilIface, t] w fun e w' => e = .returned (.bool false) ∧ w' = w := by
  go_enter Tryz.func43, Tryz.ntmps43
  go_wp2
  go_ret
  exact ⟨rfl, rfl⟩
theorem eaValueT (t : Addr) (w : World) : (ReflectliteValue.unpack (.iface 76 (.pointer (some t)))).run Tryz.prog w = .ok (.agg #[.pointer (some ⟨11, 76, none⟩), .pointer (some ⟨w.heap.size, 0, none⟩), .int .u64 150]) (w.alloc (.cells #[.pointer (some t)] 76)) := by kernel_rfl
theorem eaTypeT (a : Addr) (w : World) : (ReflectliteValue.methodAny (ReflectliteValue.valueError "reflectlite.Value.Type" 0) (fun t _ _ _ => ReflectliteType.toType t) #[.agg #[.pointer (some ⟨11, 76, none⟩), .pointer (some a), .int .u64 150]]).run Tryz.prog w = .ok (.iface 149 (.agg #[.pointer (some ⟨11, 76, none⟩)])) w := by kernel_rfl
theorem eaMethodKind (h : Value) (w : World) : (Go.method 186 149 (.agg #[h]) "Kind").run Tryz.prog w = .ok (273, h) w := by kernel_rfl
theorem eaMethodElem (h : Value) (w : World) : (Go.method 186 149 (.agg #[h]) "Elem").run Tryz.prog w = .ok (284, .agg #[h]) w := by kernel_rfl
theorem eaMethodImplements (h : Value) (w : World) : (Go.method 186 149 (.agg #[h]) "Implements").run Tryz.prog w = .ok (285, .agg #[h]) w := by kernel_rfl
theorem eaMethodAssignable (h : Value) (w : World) : (Go.method 186 149 (.agg #[h]) "AssignableTo").run Tryz.prog w = .ok (282, .agg #[h]) w := by kernel_rfl
theorem eaKindT (w : World) : ((ReflectliteType.abiMethod fun t => (fun a : Nat => Value.int IntKind.u8 (a : Int)) <$> Rtype.kind t) #[.pointer (some ⟨11, 76, none⟩)]).run Tryz.prog w = .ok (.int .u8 22) w := by kernel_rfl
theorem eaKindF (w : World) : ((ReflectliteType.abiMethod fun t => (fun a : Nat => Value.int IntKind.u8 (a : Int)) <$> Rtype.kind t) #[.pointer (some ⟨11, 74, none⟩)]).run Tryz.prog w = .ok (.int .u8 25) w := by kernel_rfl
theorem eaElemT (w : World) : (ReflectliteType.method ReflectliteType.elem #[.agg #[.pointer (some ⟨11, 76, none⟩)]]).run Tryz.prog w = .ok (.iface 149 (.agg #[.pointer (some ⟨11, 74, none⟩)])) w := by kernel_rfl
theorem eaImplements (w : World) : (ReflectliteType.relation "Implements" ReflectliteType.implements_ #[.agg #[.pointer (some ⟨11, 74, none⟩)], .iface 149 (.agg #[.pointer (some ⟨11, 58, none⟩)])]).run Tryz.prog w = .ok (.bool true) w := by kernel_rfl
theorem eaTypeOf (v : Value) (w : World) : (ReflectliteType.typeOf #[.iface 74 v]).run Tryz.prog w = .ok (.iface 149 (.agg #[.pointer (some ⟨11, 74, none⟩)])) w := by kernel_rfl
theorem eaAssignable (w : World) : (ReflectliteType.relation "AssignableTo" ReflectliteType.assignableTo #[.agg #[.pointer (some ⟨11, 74, none⟩)], .iface 149 (.agg #[.pointer (some ⟨11, 74, none⟩)])]).run Tryz.prog w = .ok (.bool true) w := by kernel_rfl
theorem eaValueF (x y : Value) (w : World) : (ReflectliteValue.unpack (.iface 74 (.agg #[x, y]))).run Tryz.prog w = .ok (.agg #[.pointer (some ⟨11, 74, none⟩), .pointer (some ⟨w.heap.size, 0, none⟩), .int .u64 153]) (w.alloc (.cells #[x, y] 74)) := by kernel_rfl
theorem earlm (z : Sem Value) (f : TypeId → Addr → Nat → Nat → Sem Value) (v : Value) :
    ReflectliteValue.method z f #[v] = (do match ← ReflectliteValue.parts v with | none => z | some (t, a, fl) => f t a fl (fl % 32)) := rfl
theorem eaPartsT (a : Addr) (w : World) : (ReflectliteValue.parts (.agg #[.pointer (some ⟨11, 76, none⟩), .pointer (some a), .int .u64 150])).run Tryz.prog w = .ok (some (76, a, 150)) w := by kernel_rfl
theorem eaIsNil (a p : Addr) (W : World) (ha : W.cell? a = some (.pointer (some p))) :
    (ReflectliteValue.method (ReflectliteValue.valueError "reflectlite.Value.IsNil" 0) ReflectliteValue.isNil #[.agg #[.pointer (some ⟨11, 76, none⟩), .pointer (some a), .int .u64 150]]).run Tryz.prog W = .ok (.bool false) W := by
  rw [earlm]
  simp only [Sem.run_bind, eaPartsT, Result.andThen]
  simp [ReflectliteValue.isNil, loadVar, isAgg, underlying, Tryz.underlying76, ha, Result.andThen]
theorem eaElemOf (w : World) : (Rtype.elem? 76).run Tryz.prog w = .ok (some 74) w := by kernel_rfl
theorem eaMk (p : Addr) (w : World) : (ReflectliteValue.mk 74 p ReflectliteValue.flagAddr).run Tryz.prog w = .ok (.agg #[.pointer (some ⟨11, 74, none⟩), .pointer (some p), .int .u64 409]) w := by kernel_rfl
theorem eaElemV (a p : Addr) (W : World) (ha : W.cell? a = some (.pointer (some p))) :
    (ReflectliteValue.method (ReflectliteValue.valueError "reflectlite.Value.Elem" 0) ReflectliteValue.elem #[.agg #[.pointer (some ⟨11, 76, none⟩), .pointer (some a), .int .u64 150]]).run Tryz.prog W
      = .ok (.agg #[.pointer (some ⟨11, 74, none⟩), .pointer (some p), .int .u64 409]) W := by
  rw [earlm]
  simp only [Sem.run_bind, eaPartsT, Result.andThen]
  simp [ReflectliteValue.elem, loadVar, isAgg, underlying, Tryz.underlying76, ha, Result.andThen, eaElemOf, eaMk]
theorem eaPartsA (a : Addr) (w : World) : (ReflectliteValue.parts (.agg #[.pointer (some ⟨11, 74, none⟩), .pointer (some a), .int .u64 409])).run Tryz.prog w = .ok (some (74, a, 409)) w := by kernel_rfl
theorem eaPartsF (a : Addr) (w : World) : (ReflectliteValue.parts (.agg #[.pointer (some ⟨11, 74, none⟩), .pointer (some a), .int .u64 153])).run Tryz.prog w = .ok (some (74, a, 153)) w := by kernel_rfl
theorem eaDirect (w : World) : (Rtype.directlyAssignable 74 74).run Tryz.prog w = .ok true w := by kernel_rfl
theorem earls (v x : Value) : ReflectliteValue.set #[v, x] = (do
    let (some (dst, a, fl), some (src, b, _)) := (← ReflectliteValue.parts v, ← ReflectliteValue.parts x)
      | unsupported (.noEntry "extern/(internal/reflectlite.Value).Set.zeroValue")
    if fl / ReflectliteValue.flagAddr % 2 == 0 then unsupported (.noEntry "extern/(internal/reflectlite.Value).Set.unaddressable")
    let val ← loadVar src b
    if ← Rtype.directlyAssignable dst src then storeVar dst a val
    else if ← Rtype.implements dst src then
      if (← Rtype.kind src) == 20 then
        match val with
        | .nilIface => unsupported (.noEntry "extern/reflectlite: a nil value of one interface type handed on as a value of another")
        | _ => storeVar dst a val
      else storeVar dst a (.iface src val)
    else panicString ("reflectlite.Set: value of type " ++ (← Rtype.spelt src) ++ " is not assignable to type " ++ (← Rtype.spelt dst))
    pure (.tuple #[])) := rfl
theorem eaSet (q h : Nat) (x y o0 o1 : Value) (W : World) (hx : x.oneCell' = true) (hy : y.oneCell' = true) (hxc : x.cells = #[x]) (hyc : y.cells = #[y]) (hb0 : W.cell? ⟨h, 0, none⟩ = some x) (hb1 : W.cell? ⟨h, 1, none⟩ = some y) (ht0 : W.cell? ⟨q, 0, none⟩ = some o0) (ht1 : W.cell? ⟨q, 1, none⟩ = some o1) (hf0 : W.frozen? ⟨q, 0, none⟩ = false) (hf1 : W.frozen? ⟨q, 1, none⟩ = false) :
    (ReflectliteValue.set #[.agg #[.pointer (some ⟨11, 74, none⟩), .pointer (some ⟨q, 0, none⟩), .int .u64 409], .agg #[.pointer (some ⟨11, 74, none⟩), .pointer (some ⟨h, 0, none⟩), .int .u64 153]]).run Tryz.prog W
      = .ok (.tuple #[]) ((W.setCell ⟨q, 0, none⟩ x).setCell ⟨q, 1, none⟩ y) := by
  have hl : (loadCellsFrom ⟨h, 0, none⟩ 0 2 #[]).run Tryz.prog W = .ok #[x, y] W := by
    simp [loadCellsFrom, Addr.add, hb0, hb1, Result.andThen]
  rw [earls]
  simp only [Sem.run_bind, eaPartsA, eaPartsF, Result.andThen]
  simp [ReflectliteValue.flagAddr, loadVar, isAgg, underlying, Tryz.underlying74, loadCells, hl, Result.andThen, eaDirect, storeVar, Value.cells, storeCells, Addr.add]
  rw [run_store Tryz.prog W ⟨q, 0, none⟩ _ _ hx]
  have h1 : (W.setCell ⟨q, 0, none⟩ x).cell? ⟨q, 1, none⟩ = some o1 := (World.cell?_setCell_other W ⟨q, 0, none⟩ ⟨q, 1, none⟩ x (by simp)).trans ht1
  have h2 : (W.setCell ⟨q, 0, none⟩ x).frozen? ⟨q, 1, none⟩ = false := by simpa using hf1
  simp only [ht0, hf0]
  simp
  rw [run_store Tryz.prog _ ⟨q, 1, none⟩ _ _ hy]
  simp [h1, h2]
theorem as_hit (n : Int) (a : Addr) (q : Nat) (o0 o1 : Value) (w : World) (hg : w.cell? ⟨2, 0, none⟩ = some (.iface 149 (.agg #[.pointer (some ⟨11, 58, none⟩)])))
    (hq : Blk w q 74 #[o0, o1]) :
    Calls Tryz.prog 43 #[.iface 74 (.agg #[.int .i64 n, .iface 269 (.pointer (some a))]), .iface 76 (.pointer (some ⟨q, 0, none⟩))] w fun e w' => e = .returned (.bool true) ∧ Blk w' q 74 #[.int .i64 n, .iface 269 (.pointer (some a))] ∧ TurnedIn q (q + 1) w w' := by
  have f61 := @run_callFunc_extern Tryz.prog 61 _ (fun args => ReflectliteValue.unpack (args.getD 0 (.tuple #[]))) Tryz.func61 (by kernel_rfl) (by kernel_rfl) (by kernel_rfl) (by kernel_rfl)
  have f62 := @run_callFunc_extern Tryz.prog 62 _ (ReflectliteValue.methodAny (ReflectliteValue.valueError "reflectlite.Value.Type" 0) (fun t _ _ _ => ReflectliteType.toType t)) Tryz.func62 (by kernel_rfl) (by kernel_rfl) (by kernel_rfl) (by kernel_rfl)
  have f63 := @run_callFunc_extern Tryz.prog 63 _ (ReflectliteValue.method (ReflectliteValue.valueError "reflectlite.Value.IsNil" 0) ReflectliteValue.isNil) Tryz.func63 (by kernel_rfl) (by kernel_rfl) (by kernel_rfl) (by kernel_rfl)
  have f273 := @run_callFunc_extern Tryz.prog 273 _ (ReflectliteType.abiMethod fun t => do pure (.int .u8 (← Rtype.kind t))) Tryz.func273 (by kernel_rfl) (by kernel_rfl) (by kernel_rfl) (by kernel_rfl)
  have f284 := @run_callFunc_extern Tryz.prog 284 _ (ReflectliteType.method ReflectliteType.elem) Tryz.func284 (by kernel_rfl) (by kernel_rfl) (by kernel_rfl) (by kernel_rfl)
  have f285 := @run_callFunc_extern Tryz.prog 285 _ (ReflectliteType.relation "Implements" ReflectliteType.implements_) Tryz.func285 (by kernel_rfl) (by kernel_rfl) (by kernel_rfl) (by kernel_rfl)
  have f106 := @run_callFunc_extern Tryz.prog 106 _ ReflectliteType.typeOf Tryz.func106 (by kernel_rfl) (by kernel_rfl) (by kernel_rfl) (by kernel_rfl)
  have f282 := @run_callFunc_extern Tryz.prog 282 _ (ReflectliteType.relation "AssignableTo" ReflectliteType.assignableTo) Tryz.func282 (by kernel_rfl) (by kernel_rfl) (by kernel_rfl) (by kernel_rfl)
  have f127 := @run_callFunc_extern Tryz.prog 127 _ (ReflectliteValue.method (ReflectliteValue.valueError "reflectlite.Value.Elem" 0) ReflectliteValue.elem) Tryz.func127 (by kernel_rfl) (by kernel_rfl) (by kernel_rfl) (by kernel_rfl)
  have f128 := @run_callFunc_extern Tryz.prog 128 _ ReflectliteValue.set Tryz.func128 (by kernel_rfl) (by kernel_rfl) (by kernel_rfl) (by kernel_rfl)
  have e1 := eaValueT
  have e2 := eaTypeT
  have e3 := eaMethodKind
  have e4 := eaMethodElem
  have e5 := eaMethodImplements
  have e6 := eaMethodAssignable
  have e7 := eaKindT
  have e8 := eaKindF
  have e9 := eaElemT
  have e10 := eaImplements
  have e11 := eaTypeOf
  have e12 := eaAssignable
  have e13 := eaValueF
  have hgl := World.block_lt_of_cell? w _ hg
  have hql := hq.lt
  have hb1 := below_alloc (Below.refl w.heap.size w) (.cells #[.pointer (some ⟨q, 0, none⟩)] 76)
  have hb2 := below_alloc hb1 (.cells #[.pointer (some ⟨11, 76, none⟩), .pointer (some ⟨w.heap.size, 0, none⟩), .int .u64 150] 98)
  have hb3 := below_alloc hb2 (.cells #[.pointer (some ⟨11, 76, none⟩), .pointer (some ⟨w.heap.size, 0, none⟩), .int .u64 150] 98)
  have hb4 := below_alloc hb3 (.cells #[.int .i64 n, .iface 269 (.pointer (some a))] 74)
  have K1 := (Blk.new w 76 #[.pointer (some ⟨q, 0, none⟩)]).alloc (.cells #[.pointer (some ⟨11, 76, none⟩), .pointer (some ⟨w.heap.size, 0, none⟩), .int .u64 150] 98)
  have n8 := eaIsNil ⟨w.heap.size, 0, none⟩ ⟨q, 0, none⟩ ((w.alloc (.cells #[.pointer (some ⟨q, 0, none⟩)] 76)).alloc (.cells #[.pointer (some ⟨11, 76, none⟩), .pointer (some ⟨w.heap.size, 0, none⟩), .int .u64 150] 98)) (K1.cell 0)
  have hg2 : ((w.alloc (.cells #[.pointer (some ⟨q, 0, none⟩)] 76)).alloc (.cells #[.pointer (some ⟨11, 76, none⟩), .pointer (some ⟨w.heap.size, 0, none⟩), .int .u64 150] 98)).cell? ⟨2, 0, none⟩ = some (.iface 149 (.agg #[.pointer (some ⟨11, 58, none⟩)])) := (hb2.cell (p := ⟨2, 0, none⟩) hgl).trans hg
  have el := eaElemV ⟨w.heap.size, 0, none⟩ ⟨q, 0, none⟩ (((w.alloc (.cells #[.pointer (some ⟨q, 0, none⟩)] 76)).alloc (.cells #[.pointer (some ⟨11, 76, none⟩), .pointer (some ⟨w.heap.size, 0, none⟩), .int .u64 150] 98)).alloc (.cells #[.pointer (some ⟨11, 76, none⟩), .pointer (some ⟨w.heap.size, 0, none⟩), .int .u64 150] 98)) ((K1.alloc (.cells #[.pointer (some ⟨11, 76, none⟩), .pointer (some ⟨w.heap.size, 0, none⟩), .int .u64 150] 98)).cell 0)
  have Q4 := hq.below hb4 hql
  have K4 : Blk ((((w.alloc (.cells #[.pointer (some ⟨q, 0, none⟩)] 76)).alloc (.cells #[.pointer (some ⟨11, 76, none⟩), .pointer (some ⟨w.heap.size, 0, none⟩), .int .u64 150] 98)).alloc (.cells #[.pointer (some ⟨11, 76, none⟩), .pointer (some ⟨w.heap.size, 0, none⟩), .int .u64 150] 98)).alloc (.cells #[.int .i64 n, .iface 269 (.pointer (some a))] 74)) (w.heap.size + 1 + 1 + 1) 74 #[.int .i64 n, .iface 269 (.pointer (some a))] := Blk.newAt _ _ _ _ (by simp)
  have st := eaSet q (w.heap.size + 1 + 1 + 1) (.int .i64 n) (.iface 269 (.pointer (some a))) o0 o1 ((((w.alloc (.cells #[.pointer (some ⟨q, 0, none⟩)] 76)).alloc (.cells #[.pointer (some ⟨11, 76, none⟩), .pointer (some ⟨w.heap.size, 0, none⟩), .int .u64 150] 98)).alloc (.cells #[.pointer (some ⟨11, 76, none⟩), .pointer (some ⟨w.heap.size, 0, none⟩), .int .u64 150] 98)).alloc (.cells #[.int .i64 n, .iface 269 (.pointer (some a))] 74)) rfl rfl rfl rfl (K4.cell 0) (K4.cell 1) (Q4.cell 0) (Q4.cell 1) (Q4.frozen 0) (Q4.frozen 1)
  have HQ4 := hid Q4
  have HB4 := hid hb4
  clear hb1 hb2 hb3 hb4 K1 Q4 K4 hq
  go_enter Tryz.func43, Tryz.ntmps43
  go_wp2
  refine wp_loop_rounds 1 ?_
  rw [rounds_succ]
  go_wp2
  go_ret
  refine ⟨rfl, (HQ4.out.set_ 0 _).set_ 1 _, ?_⟩
  exact ((TurnedIn.of_below HB4.out).set_ ⟨q, 0, none⟩ ⟨Nat.le_refl _, Nat.lt_succ_self _⟩ _).set_ ⟨q, 1, none⟩ ⟨Nat.le_refl _, Nat.lt_succ_self _⟩ _
end Go.Proofs.YtbmhaamenjhjfaaGreatDoor
namespace Go.Proofs.YtbmhaamenjhjfaaGreatDoor
open Go.RowKit Go.WideShapes Go.ChangeShapes
set_option linter.unusedVariables false
def flD (ls : List (List UInt8)) : Nat → List Int
  | 0 => []
  | k + 1 => flD ls k ++ (if (repD ls k).2 = 0 then [] else [(k : Int) + 1])
theorem flD_no {ls : List (List UInt8)} {k : Nat} (h : (repD ls k).2 = 0) : flD ls (k + 1) = flD ls k := by rw [flD, if_pos h, List.append_nil]
theorem flD_yes {ls : List (List UInt8)} {k : Nat} (h : (repD ls k).2 ≠ 0) : flD ls (k + 1) = flD ls k ++ [(k : Int) + 1] := by rw [flD, if_neg h]
theorem flD_len (ls : List (List UInt8)) (k : Nat) : (flD ls k).length ≤ k := by
  induction k with
  | zero => simp [flD]
  | succ k ih =>
    by_cases h : (repD ls k).2 = 0
    · rw [flD_no h]; omega
    · rw [flD_yes h, List.length_append]; simp; omega
def mnD (l : List UInt8) : Nat := if okSc l then nlD l else 0
theorem mnD_no {l : List UInt8} (h : okSc l = false) : mnD l = 0 := by simp [mnD, h]
theorem mnD_yes {l : List UInt8} (h : okSc l = true) : mnD l = nlD l := by simp [mnD, h]
theorem mnD_50 (l : List UInt8) : mnD l ≤ 50 := by
  cases h : okSc l
  · rw [mnD_no h]; omega
  · rw [mnD_yes h]; exact okSc_50 h
def flA (l : List UInt8) : List Int := flD (lnsD l) (mnD l)
theorem flA_len (l : List UInt8) : (flA l).length ≤ 1048576 := by
  have := flD_len (lnsD l) (mnD l); have := mnD_50 l; unfold flA; omega
theorem repD_kind (ls : List (List UInt8)) (k : Nat) : ((repD ls k).2 = 0 ∧ (repD ls k).1 ≠ [110, 111] ∧ (repD ls k).1 ≠ [119, 104, 97, 116]) ∨ ((repD ls k).2 ≠ 0 ∧ (repD ls k).1 = [110, 111]) ∨ ((repD ls k).2 ≠ 0 ∧ (repD ls k).1 = [119, 104, 97, 116]) := by
  have h := (stepD_inv (ls.getD k []) (runD_ok ls k)).2
  unfold repD
  rcases h with ⟨h1, h2⟩ | ⟨h1, h2⟩ | ⟨h1, h2⟩
  · exact .inl ⟨h1, heads_ne h2⟩
  · exact .inr (.inl ⟨by rw [h1]; decide, h2⟩)
  · exact .inr (.inr ⟨by rw [h1]; decide, h2⟩)
set_option maxRecDepth 100000 in
theorem specFailedLines_any (l : List UInt8) (w : World) (hs : l.length ≤ 1048576) :
    Calls Tryz.prog 21 #[.string (sB l)] w fun (r : Ending) w' => ∃ u, r = Ending.returned (.tuple #[u, .bool (okSc l)]) ∧ OwnI 3 w' w.heap.size u (flA l) ∧ (flA l).length ≤ 1048576 ∧ Below w.heap.size w w' := by
  have HLen := hid (flA_len l)
  have HNo := hid (mnD_no (l := l))
  have HYes := hid (mnD_yes (l := l))
  go_enter Tryz.func21, Tryz.ntmps21
  go_wp2_with fail
  refine (coRun_any l _ hs).mono ?_
  rintro e w1 ⟨hr, hb⟩
  have HB1 := hid hb
  have hex : ∃ uA un uc S rv, e = .returned (.tuple #[.agg #[.slice uA un uc, .int .i64 S], rv, .bool (okSc l)]) ∧ StrOwn 9 w1 w.heap.size rv (repsD (lnsD l) (mnD l)) := by
    rcases hr with ⟨hok, rfl⟩ | ⟨hok, u, rv, rfl, ho, hrv⟩
    · exact ⟨none, 0, 0, 0, .slice none 0 0, by rw [hok], by rw [HNo.out hok]; exact StrOwn.nil _ _ _⟩
    · obtain ⟨uA, un, uc, rfl⟩ := ho.shape3
      exact ⟨uA, un, uc, _, rv, by rw [hok], by rw [HYes.out hok]; exact hrv⟩
  obtain ⟨uA, un, uc, S, rv, rfl, hrv⟩ := hex
  have hm50 := mnD_50 l
  have HA : Hid (flA l = flD (lnsD l) (mnD l)) := hid rfl
  obtain ⟨m, hm⟩ : ∃ m, mnD l = m := ⟨_, rfl⟩
  obtain ⟨ls, hls⟩ : ∃ ls, lnsD l = ls := ⟨_, rfl⟩
  obtain ⟨b, hbk⟩ : ∃ b, okSc l = b := ⟨_, rfl⟩
  simp only [hm, hls] at hrv hm50 HA
  rw [hbk]
  have HBk := hid hbk
  have HR0 := hid (hrv.below (below_alloc (Below.refl _ w1) (.cells #[.slice uA un uc, .int .i64 S] 30)))
  obtain ⟨rA, rc, rfl⟩ := hrv.shape3
  rw [repsD_length] at HR0 ⊢
  have HB2 := hid (below_alloc HB1.out (.cells #[.slice uA un uc, .int .i64 S] 30))
  clear hr hb hrv hm hls hbk HNo HYes HB1
  go_wp2
  generalize w1.alloc (.cells #[.slice uA un uc, .int .i64 S] 30) = W at HR0 HB2 ⊢
  have HWz := hid HB2.out.size
  obtain ⟨A', c', hsh, hcell⟩ := HR0.out.read
  rw [repsD_length] at hsh hcell
  injection hsh with h1 h2 h3
  subst h1 h3
  have HCell := hid hcell
  clear hcell h2 HR0
  go_loopw [7, 18] (fun q i wr => ∃ k : Nat, k ≤ m ∧ i = .int .i64 k ∧ OwnI 3 wr W.heap.size q (flD ls k) ∧ Below W.heap.size W wr) (fun _ i _ => m - (intOf i).toNat)
  case atStart => exact ⟨0, Nat.zero_le _, rfl, OwnI.nil _ _ _, Below.refl _ _⟩
  case round =>
    obtain ⟨k, hk, rfl, ho, hb⟩ := hrel
    have HO := hid ho
    have HB := hid hb
    have hwz := hb.size
    have hwz2 := HWz.out
    obtain ⟨qA, qn, qc, rfl⟩ := ho.shape3
    have hql := flD_len ls k
    clear ho hb
    by_cases hkl : k < m
    · obtain ⟨b', o', rfl, hbl, hc⟩ := HCell.out k hkl
      have e1 : (repsD ls m).getD k [] = (repD ls k).1 := by simp [repsD, List.getD, hkl]
      rw [e1] at hc
      have hck := cell_later hc HB.out
      have HYs := hid (flD_yes (ls := ls) (k := k))
      have HNs := hid (flD_no (ls := ls) (k := k))
      have hkd := repD_kind ls k
      obtain ⟨t, ht⟩ : ∃ t, (repD ls k).1 = t := ⟨_, rfl⟩
      rw [ht] at hck hkd
      have htl := sB_toList t
      obtain ⟨F, hF⟩ : ∃ F, sB t = F := ⟨_, rfl⟩
      rw [hF] at hck htl
      clear hc e1 ht hF
      rcases hkd with ⟨hk0, hk1, hk2⟩ | ⟨hk0, rfl⟩ | ⟨hk0, rfl⟩
      · have hf1 : (F.toList == [110, 111]) = false := by rw [htl]; exact beq_eq_false_iff_ne.2 hk1
        have hf2 : (F.toList == [119, 104, 97, 116]) = false := by rw [htl]; exact beq_eq_false_iff_ne.2 hk2
        have HS := hid (HNs.out hk0)
        clear hk0 hk1 hk2 htl
        go_wp2
        go_roundw
        case rel => exact ⟨k + 1, by omega, by go_num, by rw [HS.out]; exact HO.out, HB.out⟩
        case measure => simp [intOf] <;> omega
      · have HS := hid (HYs.out hk0)
        clear hk0
        go_wp2_with (at_builtin; refine wpList_append_int rfl _ _ 22 3 rfl Tryz.underlying22 Tryz.info3 W.heap.size _ (flD ls k) ((k : Int) + 1) rfl HO.out rfl rfl (by omega) (by omega) ?_; rintro q4 w4 ho4 hb4)
        have hO4 : OwnI 3 w4 W.heap.size q4 (flD ls (k + 1)) := by rw [HS.out]; exact ho4
        go_roundw
        case rel => exact ⟨k + 1, by omega, by go_num, hO4, HB.out.trans hb4⟩
        case measure => simp [intOf] <;> omega
      · have HS := hid (HYs.out hk0)
        clear hk0
        go_wp2_with (at_builtin; refine wpList_append_int rfl _ _ 22 3 rfl Tryz.underlying22 Tryz.info3 W.heap.size _ (flD ls k) ((k : Int) + 1) rfl HO.out rfl rfl (by omega) (by omega) ?_; rintro q4 w4 ho4 hb4)
        have hO4 : OwnI 3 w4 W.heap.size q4 (flD ls (k + 1)) := by rw [HS.out]; exact ho4
        go_roundw
        case rel => exact ⟨k + 1, by omega, by go_num, hO4, HB.out.trans hb4⟩
        case measure => simp [intOf] <;> omega
    · obtain rfl : k = m := by omega
      go_wp2
      go_ret2
      exact ⟨.slice qA qn qc, by rw [HBk.out]; rfl, by rw [HA.out]; exact HO.out.mono HWz.out, HLen.out, HB2.out.trans (HB.out.mono HWz.out)⟩
def GlobE (w : World) : Prop := w.cell? ⟨2, 0, none⟩ = some (.iface 149 (.agg #[.pointer (some ⟨11, 58, none⟩)]))
theorem GlobE.later {w w' : World} (h : GlobE w) (hb : Below w.heap.size w w') : GlobE w' := cell_later h hb
set_option maxRecDepth 100000 in
theorem implFailedLines_any (l : List UInt8) (w : World) {a0 a1 : Addr} (hG : GlobD w a0 a1) (hE : GlobE w) (hs : l.length ≤ 1048576) :
    Calls Tryz.prog 22 #[.string (sB l)] w fun (r : Ending) w' => ∃ u, r = Ending.returned (.tuple #[u, .bool (okSc l)]) ∧ OwnI 3 w' w.heap.size u (flA l) ∧ (flA l).length ≤ 1048576 ∧ Below w.heap.size w w' := by
  have HG := hid hG
  have HEt := hid hE
  have HLen := hid (flA_len l)
  clear hG hE
  go_enter Tryz.func22, Tryz.ntmps22
  go_wp2_with fail
  refine (runLines_any l _ HG.out hs).mono ?_
  rintro e w1 ⟨hr, hb⟩
  have HB1 := hid hb
  clear hb
  rcases hr with ⟨hok, rfl⟩ | ⟨hok, u, ov, rfl, ho, hov⟩
  · have HN : Hid (flA l = []) := hid (by unfold flA; rw [mnD_no hok]; rfl)
    have HOk := hid hok
    clear hok
    go_wp2
    go_ret2
    exact ⟨.slice none 0 0, by rw [HOk.out]; rfl, by rw [HN.out]; exact OwnI.nil _ _ _, by rw [HN.out]; simp, below_alloc HB1.out _⟩
  · have HY : Hid (flA l = flD (lnsD l) (nlD l)) := hid (by unfold flA; rw [mnD_yes hok])
    have HOk := hid hok
    have hm50 := okSc_50 hok
    obtain ⟨m, hm⟩ : ∃ m, nlD l = m := ⟨_, rfl⟩
    obtain ⟨ls, hls⟩ : ∃ ls, lnsD l = ls := ⟨_, rfl⟩
    simp only [hm, hls] at ho hov hm50 HY ⊢
    obtain ⟨uA, un, uc, rfl⟩ := ho.shape3
    obtain ⟨S, hS⟩ : ∃ S, (runD ls m).2 = S := ⟨_, rfl⟩
    rw [hS]
    have HR0 := hid (hov.read.below (below_alloc (Below.refl _ w1) (.cells #[.slice uA un uc, .int .i64 S] 30)))
    obtain ⟨A, c, hsh, -⟩ := hov.read
    subst hsh
    obtain ⟨A', c', hsh, hcell⟩ := HR0.out
    injection hsh with h1 h2 h3
    subst h1 h3
    have HCell := hid hcell
    have HB2 := hid (below_alloc HB1.out (.cells #[.slice uA un uc, .int .i64 S] 30))
    rw [outsD_length] at HCell ⊢
    clear ho hov hm hls hS hok h2 hcell HR0
    go_wp2
    generalize w1.alloc (.cells #[.slice uA un uc, .int .i64 S] 30) = W at HCell HB2 ⊢
    go_loopw [7, 21] (fun q i wr => ∃ k : Nat, k ≤ m ∧ i = .int .i64 k ∧ OwnI 3 wr W.heap.size q (flD ls k) ∧ Below W.heap.size W wr) (fun _ i _ => m - (intOf i).toNat)
    case atStart => exact ⟨0, Nat.zero_le _, rfl, OwnI.nil _ _ _, Below.refl _ _⟩
    case round =>
      obtain ⟨k, hk, rfl, ho, hb⟩ := hrel
      have HO := hid ho
      have HB := hid hb
      have hwz := hb.size
      clear hb
      obtain ⟨pA, pn, pc, rfl⟩ := ho.shape3
      have hpl := flD_len ls k
      clear ho
      by_cases hkl : k < m
      · obtain ⟨g, hgA, hgz, hc0, hc1⟩ := HCell.out k hkl
        rw [outsD_getD a0 a1 ls hkl] at hc0 hc1
        subst hgA
        have HYs := hid (flD_yes (ls := ls) (k := k))
        have HNs := hid (flD_no (ls := ls) (k := k))
        obtain ⟨t, ht⟩ : ∃ t, (repD ls k).1 = t := ⟨_, rfl⟩
        obtain ⟨cd, hcd⟩ : ∃ cd, (repD ls k).2 = cd := ⟨_, rfl⟩
        rw [ht, hcd] at hc0 hc1
        rw [hcd] at HYs HNs
        obtain ⟨o0, ho0⟩ : ∃ o, (OcD a0 a1 ((k : Int) + 1) t cd).1 = o := ⟨_, rfl⟩
        obtain ⟨o1, ho1⟩ : ∃ o, (OcD a0 a1 ((k : Int) + 1) t cd).2 = o := ⟨_, rfl⟩
        rw [ho0] at hc0
        rw [ho1] at hc1
        have q0 := (HB.out.cell (p := ⟨g, k * 2, none⟩) hgz).trans hc0
        have q1 := (HB.out.cell (p := ⟨g, k * 2 + 1, none⟩) hgz).trans hc1
        have HEw := hid (HEt.out.later (HB2.out.trans (HB.out.mono HB2.out.size)))
        clear ht hcd hc0 hc1
        rcases cd with _ | cd
        · obtain rfl : (.string (sB t) : Value) = o0 := ho0
          obtain rfl : (.nilIface : Value) = o1 := ho1
          have HS := hid (HNs.out rfl)
          have HQ := hid (below_alloc (below_alloc HB.out (.cells #[(.string (sB t)), .nilIface] 60)) (.cells #[.int .i64 0, .nilIface] 74))
          have HK := hid ((Blk.new wr 60 #[(.string (sB t)), .nilIface]).alloc (.cells #[.int .i64 0, .nilIface] 74))
          have HF := hid (Blk.new (wr.alloc (.cells #[(.string (sB t)), .nilIface] 60)) 74 #[.int .i64 0, .nilIface])
          have HO2 := hid (OwnI.below (OwnI.below HO.out (below_alloc (Below.refl _ wr) (.cells #[(.string (sB t)), .nilIface] 60))) (below_alloc (Below.refl _ _) (.cells #[.int .i64 0, .nilIface] 74)))
          have HE2 := hid (GlobE.later (GlobE.later HEw.out (below_alloc (Below.refl _ wr) (.cells #[(.string (sB t)), .nilIface] 60))) (below_alloc (Below.refl _ _) (.cells #[.int .i64 0, .nilIface] 74)))
          have hsz : (wr.alloc (.cells #[(.string (sB t)), .nilIface] 60)).heap.size = wr.heap.size + 1 := by simp
          rw [hsz] at HF
          go_upto_region 9 with (fail)
          generalize (wr.alloc (.cells #[(.string (sB t)), .nilIface] 60)).alloc (.cells #[.int .i64 0, .nilIface] 74) = V at HQ HK HF HO2 HE2 ⊢
          have v0 : V.cell? ⟨wr.heap.size, 0, none⟩ = some ((.string (sB t))) := HK.out.cell 0
          have v1 : V.cell? ⟨wr.heap.size, 1, none⟩ = some (.nilIface) := HK.out.cell 1
          clear q0 q1 hsz
          go_wp2_with fail
          clear v0 v1
          refine (as_nil _ _).mono ?_
          rintro e w3 ⟨rfl, rfl⟩
          go_wp2
          go_roundw
          case rel => exact ⟨k + 1, by omega, by go_num, by rw [HS.out]; exact HO2.out, HQ.out⟩
          case measure => simp [intOf] <;> omega
        · have HS := hid (HYs.out (Nat.succ_ne_zero cd))
          rcases cd with _ | cd
          · obtain rfl : (.string { data := #[] } : Value) = o0 := ho0
            obtain rfl : (.iface 74 (.agg #[.int .i64 ((k : Int) + 1), .iface 269 (.pointer (some a1))]) : Value) = o1 := ho1
            have HQ := hid (below_alloc (below_alloc HB.out (.cells #[(.string { data := #[] }), .iface 74 (.agg #[.int .i64 ((k : Int) + 1), .iface 269 (.pointer (some a1))])] 60)) (.cells #[.int .i64 0, .nilIface] 74))
            have HK := hid ((Blk.new wr 60 #[(.string { data := #[] }), .iface 74 (.agg #[.int .i64 ((k : Int) + 1), .iface 269 (.pointer (some a1))])]).alloc (.cells #[.int .i64 0, .nilIface] 74))
            have HF := hid (Blk.new (wr.alloc (.cells #[(.string { data := #[] }), .iface 74 (.agg #[.int .i64 ((k : Int) + 1), .iface 269 (.pointer (some a1))])] 60)) 74 #[.int .i64 0, .nilIface])
            have HO2 := hid (OwnI.below (OwnI.below HO.out (below_alloc (Below.refl _ wr) (.cells #[(.string { data := #[] }), .iface 74 (.agg #[.int .i64 ((k : Int) + 1), .iface 269 (.pointer (some a1))])] 60))) (below_alloc (Below.refl _ _) (.cells #[.int .i64 0, .nilIface] 74)))
            have HE2 := hid (GlobE.later (GlobE.later HEw.out (below_alloc (Below.refl _ wr) (.cells #[(.string { data := #[] }), .iface 74 (.agg #[.int .i64 ((k : Int) + 1), .iface 269 (.pointer (some a1))])] 60))) (below_alloc (Below.refl _ _) (.cells #[.int .i64 0, .nilIface] 74)))
            have hsz : (wr.alloc (.cells #[(.string { data := #[] }), .iface 74 (.agg #[.int .i64 ((k : Int) + 1), .iface 269 (.pointer (some a1))])] 60)).heap.size = wr.heap.size + 1 := by simp
            rw [hsz] at HF
            go_upto_region 9 with (fail)
            generalize (wr.alloc (.cells #[(.string { data := #[] }), .iface 74 (.agg #[.int .i64 ((k : Int) + 1), .iface 269 (.pointer (some a1))])] 60)).alloc (.cells #[.int .i64 0, .nilIface] 74) = V at HQ HK HF HO2 HE2 ⊢
            have v0 : V.cell? ⟨wr.heap.size, 0, none⟩ = some ((.string { data := #[] })) := HK.out.cell 0
            have v1 : V.cell? ⟨wr.heap.size, 1, none⟩ = some (.iface 74 (.agg #[.int .i64 ((k : Int) + 1), .iface 269 (.pointer (some a1))])) := HK.out.cell 1
            clear q0 q1 hsz
            go_wp2_with fail
            clear v0 v1
            refine (as_hit ((k : Int) + 1) a1 (wr.heap.size + 1) _ _ _ HE2.out HF.out).mono ?_
            rintro e w3 ⟨rfl, hF3, ht3⟩
            have f0 := hF3.cell 0
            have hz3 : W.heap.size ≤ w3.heap.size := by have := ht3.size; have := HQ.out.size; omega
            have HO3 := hid (OwnI.turned HO2.out ht3 (OwnI.blockLt HO.out) (Or.inl (Nat.le_succ _)))
            have HQ3 := hid (below_turned HQ.out ht3 (by omega))
            clear hF3 ht3
            go_wp2_with (at_builtin; refine wpList_append_int rfl _ _ 22 3 rfl Tryz.underlying22 Tryz.info3 W.heap.size _ (flD ls k) ((k : Int) + 1) rfl HO3.out rfl rfl (by omega) (by omega) ?_; rintro q4 w4 ho4 hb4)
            have hO4 : OwnI 3 w4 W.heap.size q4 (flD ls (k + 1)) := by rw [HS.out]; exact ho4
            go_roundw
            case rel => exact ⟨k + 1, by omega, by go_num, hO4, HQ3.out.trans hb4⟩
            case measure => simp [intOf] <;> omega
          · obtain rfl : (.string { data := #[] } : Value) = o0 := ho0
            obtain rfl : (.iface 74 (.agg #[.int .i64 ((k : Int) + 1), .iface 269 (.pointer (some a0))]) : Value) = o1 := ho1
            have HQ := hid (below_alloc (below_alloc HB.out (.cells #[(.string { data := #[] }), .iface 74 (.agg #[.int .i64 ((k : Int) + 1), .iface 269 (.pointer (some a0))])] 60)) (.cells #[.int .i64 0, .nilIface] 74))
            have HK := hid ((Blk.new wr 60 #[(.string { data := #[] }), .iface 74 (.agg #[.int .i64 ((k : Int) + 1), .iface 269 (.pointer (some a0))])]).alloc (.cells #[.int .i64 0, .nilIface] 74))
            have HF := hid (Blk.new (wr.alloc (.cells #[(.string { data := #[] }), .iface 74 (.agg #[.int .i64 ((k : Int) + 1), .iface 269 (.pointer (some a0))])] 60)) 74 #[.int .i64 0, .nilIface])
            have HO2 := hid (OwnI.below (OwnI.below HO.out (below_alloc (Below.refl _ wr) (.cells #[(.string { data := #[] }), .iface 74 (.agg #[.int .i64 ((k : Int) + 1), .iface 269 (.pointer (some a0))])] 60))) (below_alloc (Below.refl _ _) (.cells #[.int .i64 0, .nilIface] 74)))
            have HE2 := hid (GlobE.later (GlobE.later HEw.out (below_alloc (Below.refl _ wr) (.cells #[(.string { data := #[] }), .iface 74 (.agg #[.int .i64 ((k : Int) + 1), .iface 269 (.pointer (some a0))])] 60))) (below_alloc (Below.refl _ _) (.cells #[.int .i64 0, .nilIface] 74)))
            have hsz : (wr.alloc (.cells #[(.string { data := #[] }), .iface 74 (.agg #[.int .i64 ((k : Int) + 1), .iface 269 (.pointer (some a0))])] 60)).heap.size = wr.heap.size + 1 := by simp
            rw [hsz] at HF
            go_upto_region 9 with (fail)
            generalize (wr.alloc (.cells #[(.string { data := #[] }), .iface 74 (.agg #[.int .i64 ((k : Int) + 1), .iface 269 (.pointer (some a0))])] 60)).alloc (.cells #[.int .i64 0, .nilIface] 74) = V at HQ HK HF HO2 HE2 ⊢
            have v0 : V.cell? ⟨wr.heap.size, 0, none⟩ = some ((.string { data := #[] })) := HK.out.cell 0
            have v1 : V.cell? ⟨wr.heap.size, 1, none⟩ = some (.iface 74 (.agg #[.int .i64 ((k : Int) + 1), .iface 269 (.pointer (some a0))])) := HK.out.cell 1
            clear q0 q1 hsz
            go_wp2_with fail
            clear v0 v1
            refine (as_hit ((k : Int) + 1) a0 (wr.heap.size + 1) _ _ _ HE2.out HF.out).mono ?_
            rintro e w3 ⟨rfl, hF3, ht3⟩
            have f0 := hF3.cell 0
            have hz3 : W.heap.size ≤ w3.heap.size := by have := ht3.size; have := HQ.out.size; omega
            have HO3 := hid (OwnI.turned HO2.out ht3 (OwnI.blockLt HO.out) (Or.inl (Nat.le_succ _)))
            have HQ3 := hid (below_turned HQ.out ht3 (by omega))
            clear hF3 ht3
            go_wp2_with (at_builtin; refine wpList_append_int rfl _ _ 22 3 rfl Tryz.underlying22 Tryz.info3 W.heap.size _ (flD ls k) ((k : Int) + 1) rfl HO3.out rfl rfl (by omega) (by omega) ?_; rintro q4 w4 ho4 hb4)
            have hO4 : OwnI 3 w4 W.heap.size q4 (flD ls (k + 1)) := by rw [HS.out]; exact ho4
            go_roundw
            case rel => exact ⟨k + 1, by omega, by go_num, hO4, HQ3.out.trans hb4⟩
            case measure => simp [intOf] <;> omega
      · obtain rfl : k = m := by omega
        go_wp2
        go_ret2
        exact ⟨.slice pA pn pc, by rw [HOk.out]; rfl, by rw [HY.out]; exact HO.out.mono HB2.out.size, HLen.out, HB2.out.trans (HB.out.mono HB2.out.size)⟩
structure GlobF (w : World) (a0 a1 : Addr) : Prop where
  d : GlobD w a0 a1
  e : GlobE w
theorem GlobF.later {w w' : World} {a0 a1 : Addr} (h : GlobF w a0 a1) (hb : Below w.heap.size w w') : GlobF w' a0 a1 := ⟨h.d.later hb, h.e.later hb⟩
end Go.Proofs.YtbmhaamenjhjfaaGreatDoor
namespace Go.Proofs.YtbmhaamenjhjfaaGreatDoor.lawFailedLines
open Go.RowKit Go.WideShapes Go.ChangeShapes
set_option linter.unusedVariables false
set_option maxRecDepth 100000 in
set_option maxHeartbeats 8000000 in
theorem walk {a0 a1 : Addr} (s0 : ByteArray) (w : World) (hs0 : s0.size ≤ maxLen) (hG : GlobF w a0 a1) :
    Calls Tryz.prog 6 #[.string s0] w fun e w' => e = .returned (.bool true) ∧ Below w.heap.size w w' := by
  by_cases hbig : 1048576 < s0.size
  · have hbI : (1048576 : Int) < (s0.size : Int) := by omega
    clear hG
    go_enter Tryz.func6, Tryz.ntmps6
    go_wp2
    go_ret
    exact ⟨rfl, Below.refl _ _⟩
  have hbI : ¬ (1048576 : Int) < (s0.size : Int) := by omega
  have HG := hid hG
  clear hG
  obtain ⟨l, rfl⟩ : ∃ l, s0 = sB l := ⟨s0.data.toList, (sB_of s0).symm⟩
  have hll : l.length ≤ 1048576 := by rw [sB_size] at hbig; omega
  have HS := hid (fun W => specFailedLines_any l W hll)
  have HI := hid (fun W (hW : GlobF W a0 a1) => implFailedLines_any l W hW.d hW.e hll)
  obtain ⟨S, hS⟩ : ∃ S, sB l = S := ⟨_, rfl⟩
  obtain ⟨X, hX⟩ : ∃ X, flA l = X := ⟨_, rfl⟩
  obtain ⟨b, hb⟩ : ∃ b, okSc l = b := ⟨_, rfl⟩
  simp only [hS, hX, hb] at HS HI hbI ⊢
  clear hs0 hbig hll hS hX hb
  go_enter Tryz.func6, Tryz.ntmps6
  go_wp2_with fail
  refine (HS.out _ ).mono ?_
  rintro e w_1 ⟨u3, rfl, ho4, hl5, hb2⟩
  have G6 := hid (below_to (Below.refl _ w) hb2)
  have Z7 := hid (show w.heap.size + 0 ≤ w_1.heap.size by have := hb2.size; first | omega | (simp at this; omega))
  have hn8 := ho4
  have HL9 := hid hl5
  obtain ⟨u3A, u3n, u3c, rfl⟩ := hn8.shape3
  have U10 := hid (OwnI.blockLt hn8)
  have F11 := hid hn8
  clear hb2 hn8 ho4 hl5
  go_wp2_with fail
  refine (HI.out _ (HG.out.later G6.out) ).mono ?_
  rintro e w_12 ⟨u14, rfl, ho15, hl16, hb13⟩
  have F17 := hid (F11.out.below hb13)
  have G18 := hid (below_to G6.out hb13)
  have Z19 := hid (show w_1.heap.size + 0 ≤ w_12.heap.size by have := hb13.size; first | omega | (simp at this; omega))
  have hn20 := ho15
  have HL21 := hid hl16
  obtain ⟨u14A, u14n, u14c, rfl⟩ := hn20.shape3
  have U22 := hid (OwnI.blockLt hn20)
  have F23 := hid hn20
  clear F11 G6 hb13 hn20 ho15 hl16
  go_wp2_with fail
  refine (eqIntS_any _ _ (X) _ F23.out.ints F17.out.ints HL21.out).mono ?_
  rintro e w_24 ⟨rfl, hb25⟩
  have F26 := hid (F17.out.below hb25)
  have F27 := hid (F23.out.below hb25)
  have G28 := hid (below_to G18.out hb25)
  have Z29 := hid (show w_12.heap.size + 0 ≤ w_24.heap.size by have := hb25.size; first | omega | (simp at this; omega))
  clear F17 F23 G18 hb25
  go_wp2_with fail
  refine (markIntS_any _ (X) _ _ _ F27.out HL21.out (by omega) (by first | omega | (have := HL21.out; omega))).mono ?_
  rintro e w_30 ⟨rfl, ho31, hg32⟩
  have qZ7 := Z7.out
  have qZ19 := Z19.out
  have qZ29 := Z29.out
  have F33 := hid (F26.out.grown hg32 (row_ne_row (U10.out) (U22.out) (by omega)))
  have G34 := hid (below_grown G28.out hg32 (fun k hk => by have := U22.out k hk; omega))
  have Z35 := hid (show w_24.heap.size + 0 ≤ w_30.heap.size by have := hg32.size; first | omega | (simp at this; omega))
  clear qZ7 qZ19 qZ29
  have F36 := hid ho31
  clear F26 G28 F27 ho31 hg32
  go_wp2_with fail
  refine (heldIntS_any _ _ _ _ F36.out.ints HL21.out (by omega) (by omega)).mono ?_
  rintro e w_37 ⟨rfl, hb38⟩
  have F39 := hid (F33.out.below hb38)
  have F40 := hid (F36.out.below hb38)
  have G41 := hid (below_to G34.out hb38)
  have Z42 := hid (show w_30.heap.size + 0 ≤ w_37.heap.size by have := hb38.size; first | omega | (simp at this; omega))
  clear F33 F36 G34 hb38
  go_wp2_with fail
  refine (HI.out _ (HG.out.later G41.out) ).mono ?_
  rintro e w_43 ⟨u45, rfl, ho46, hl47, hb44⟩
  have F48 := hid (F39.out.below hb44)
  have F49 := hid (F40.out.below hb44)
  have G50 := hid (below_to G41.out hb44)
  have Z51 := hid (show w_37.heap.size + 0 ≤ w_43.heap.size by have := hb44.size; first | omega | (simp at this; omega))
  have hn52 := ho46
  have HL53 := hid hl47
  obtain ⟨u45A, u45n, u45c, rfl⟩ := hn52.shape3
  have U54 := hid (OwnI.blockLt hn52)
  have F55 := hid hn52
  clear F39 F40 G41 hb44 hn52 ho46 hl47
  go_wp2_with fail
  refine (eqIntS_any _ _ (X) _ F55.out.ints F48.out.ints HL53.out).mono ?_
  rintro e w_56 ⟨rfl, hb57⟩
  have F58 := hid (F48.out.below hb57)
  have F59 := hid (F49.out.below hb57)
  have F60 := hid (F55.out.below hb57)
  have G61 := hid (below_to G50.out hb57)
  have Z62 := hid (show w_43.heap.size + 0 ≤ w_56.heap.size by have := hb57.size; first | omega | (simp at this; omega))
  clear F48 F49 F55 G50 hb57
  go_wp2_with fail
  refine (heldIntS_any _ _ _ _ F59.out.ints HL21.out (by omega) (by omega)).mono ?_
  rintro e w_63 ⟨rfl, hb64⟩
  have F65 := hid (F58.out.below hb64)
  have F66 := hid (F59.out.below hb64)
  have F67 := hid (F60.out.below hb64)
  have G68 := hid (below_to G61.out hb64)
  have Z69 := hid (show w_56.heap.size + 0 ≤ w_63.heap.size by have := hb64.size; first | omega | (simp at this; omega))
  clear F58 F59 F60 G61 hb64
  go_wp2
  go_ret
  exact ⟨rfl, G68.out⟩
end Go.Proofs.YtbmhaamenjhjfaaGreatDoor.lawFailedLines
