/- DskT DskZ DskVr DskUr LawT RunScriptLaw -/
import Derived.Deep.RegionWith
import Derived.BigQuiet
import Derived.Deep.DeepCutAuto
import Derived.Test.YtbmhaamenjhjfaaGreatDoorPkD39
import Derived.Test.YtbmhaamenjhjfaaGreatDoorPkD42
import Derived.Test.YtbmhaamenjhjfaaGreatDoorPkD43
import Derived.Test.YtbmhaamenjhjfaaGreatDoorPkD48
namespace Go.Proofs.YtbmhaamenjhjfaaGreatDoor
open Go.RowKit Go.WideShapes Go.ChangeShapes
set_option linter.unusedVariables false
theorem errIs_line' (n : Int) {w : World} {a0 a1 : Addr} (hG : GlobD w a0 a1) :
    Calls Tryz.prog 55 #[.iface 74 (.agg #[.int .i64 n, .iface 269 (.pointer (some a0))]), .iface 269 (.pointer (some a1))] w fun e w' => e = .returned (.bool false) ∧ Below w.heap.size w w' := by
  obtain ⟨c0, t0, h0⟩ := hG.blk0
  obtain ⟨c1, t1, h1⟩ := hG.blk1
  exact errIs_lineOther n a0 a1 c0 c1 t0 t1 w hG.ne h0 h1
theorem text_lineNo (n : Int) (w : World) {a0 a1 : Addr} (hG : GlobD w a0 a1) :
    Calls Tryz.prog 36 #[.agg #[.string { data := #[] }, .iface 74 (.agg #[.int .i64 n, .iface 269 (.pointer (some a1))])]] w fun r w' => r = .returned (.string { data := #[110, 111] }) ∧ Below w.heap.size w w' := by
  have HG := hid hG
  have HK := hid (Blk.new w 60 #[.string { data := #[] }, .iface 74 (.agg #[.int .i64 n, .iface 269 (.pointer (some a1))])])
  have HB := hid (below_alloc (Below.refl _ w) (.cells #[.string { data := #[] }, .iface 74 (.agg #[.int .i64 n, .iface 269 (.pointer (some a1))])] 60))
  clear hG
  go_enter Tryz.func36, Tryz.ntmps36
  go_upto_region 1 with (fail)
  generalize w.alloc (.cells #[.string { data := #[] }, .iface 74 (.agg #[.int .i64 n, .iface 269 (.pointer (some a1))])] 60) = W0 at HK HB ⊢
  have c1 : W0.cell? ⟨w.heap.size, 1, none⟩ = some (.iface 74 (.agg #[.int .i64 n, .iface 269 (.pointer (some a1))])) := HK.out.cell 1
  have g1 := (HG.out.later HB.out).no
  go_wp2_with fail
  clear c1 g1
  refine (errIs_lineSame n _ _).mono ?_
  rintro e W1 ⟨rfl, hb⟩
  have HK := hid (HK.out.below hb HK.out.lt)
  have HB := hid (below_to HB.out hb)
  clear hb
  go_wp2
  go_ret
  exact ⟨rfl, HB.out⟩
theorem text_lineWhat (n : Int) (w : World) {a0 a1 : Addr} (hG : GlobD w a0 a1) :
    Calls Tryz.prog 36 #[.agg #[.string { data := #[] }, .iface 74 (.agg #[.int .i64 n, .iface 269 (.pointer (some a0))])]] w fun r w' => r = .returned (.string { data := #[119, 104, 97, 116] }) ∧ Below w.heap.size w w' := by
  have HG := hid hG
  have HK := hid (Blk.new w 60 #[.string { data := #[] }, .iface 74 (.agg #[.int .i64 n, .iface 269 (.pointer (some a0))])])
  have HB := hid (below_alloc (Below.refl _ w) (.cells #[.string { data := #[] }, .iface 74 (.agg #[.int .i64 n, .iface 269 (.pointer (some a0))])] 60))
  clear hG
  go_enter Tryz.func36, Tryz.ntmps36
  go_upto_region 1 with (fail)
  generalize w.alloc (.cells #[.string { data := #[] }, .iface 74 (.agg #[.int .i64 n, .iface 269 (.pointer (some a0))])] 60) = W0 at HK HB ⊢
  have c1 : W0.cell? ⟨w.heap.size, 1, none⟩ = some (.iface 74 (.agg #[.int .i64 n, .iface 269 (.pointer (some a0))])) := HK.out.cell 1
  have g1 := (HG.out.later HB.out).no
  go_wp2_with fail
  clear c1 g1
  refine (errIs_line' n (HG.out.later HB.out)).mono ?_
  rintro e W1 ⟨rfl, hb⟩
  have HK := hid (HK.out.below hb HK.out.lt)
  have HB := hid (below_to HB.out hb)
  clear hb
  have c1 : W1.cell? ⟨w.heap.size, 1, none⟩ = some (.iface 74 (.agg #[.int .i64 n, .iface 269 (.pointer (some a0))])) := HK.out.cell 1
  have g0 := (HG.out.later HB.out).what
  go_wp2_with fail
  clear c1 g0
  refine (errIs_lineSame n _ _).mono ?_
  rintro e W2 ⟨rfl, hb⟩
  have HK := hid (HK.out.below hb HK.out.lt)
  have HB := hid (below_to HB.out hb)
  clear hb
  go_wp2
  go_ret
  exact ⟨rfl, HB.out⟩
theorem text_oc (n : Int) (t : List UInt8) (k : Nat) (w : World) {a0 a1 : Addr} (hG : GlobD w a0 a1) :
    Calls Tryz.prog 36 #[.agg #[(OcD a0 a1 n t k).1, (OcD a0 a1 n t k).2]] w fun r w' => r = .returned (.string (sB (txD t k))) ∧ Below w.heap.size w w' :=
  match k with
  | 0 => text_ok t w hG
  | 1 => text_lineNo n w hG
  | _ + 2 => text_lineWhat n w hG
end Go.Proofs.YtbmhaamenjhjfaaGreatDoor
namespace Go.Proofs.YtbmhaamenjhjfaaGreatDoor
open Go.RowKit Go.WideShapes Go.ChangeShapes
set_option linter.unusedVariables false
def scT (l : List UInt8) : List (List UInt8) := if okSc l then repsD (lnsD l) (nlD l) else []
theorem rs_no {l : List UInt8} (h : okSc l = false) : scT l = [] := by simp [scT, h]
theorem rs_yes {l : List UInt8} (h : okSc l = true) : scT l = repsD (lnsD l) (nlD l) := by simp [scT, h]
theorem txD_rep (ls : List (List UInt8)) (k : Nat) : txD (repD ls k).1 (repD ls k).2 = (repD ls k).1 := by
  have h := (stepD_inv (ls.getD k []) (runD_ok ls k)).2
  unfold repD
  rcases h with ⟨h, -⟩ | ⟨h1, h2⟩ | ⟨h1, h2⟩
  · rw [h]; rfl
  · rw [h1, h2]; rfl
  · rw [h1, h2]; rfl
end Go.Proofs.YtbmhaamenjhjfaaGreatDoor
namespace Go.Proofs.YtbmhaamenjhjfaaGreatDoor
open Go.RowKit Go.WideShapes Go.ChangeShapes
set_option linter.unusedVariables false
theorem StrOwn.monoB {ts : TypeId} {w : World} {B B' : Nat} {v : Value} {ls : List (List UInt8)} (h : StrOwn ts w B v ls) (hB : B' ≤ B) : StrOwn ts w B' v ls := by
  obtain ⟨h1, h2⟩ := h
  refine ⟨h1, ?_⟩
  rcases h2 with h2 | ⟨g, cap, cur, rfl, hb, r⟩
  · exact .inl h2
  · exact .inr ⟨g, cap, cur, rfl, Nat.le_trans hB hb, r⟩
set_option maxRecDepth 100000 in
theorem implRunScript_any (l : List UInt8) (w : World) {a0 a1 : Addr} (hG : GlobD w a0 a1) (hs : l.length ≤ 1048576) :
    Calls Tryz.prog 15 #[.string (sB l)] w fun (r : Ending) w' => ∃ u, r = Ending.returned (.tuple #[u, .bool (okSc l)]) ∧ StrOwn 9 w' w.heap.size u (scT l) ∧ (scT l).length ≤ 1048576 ∧ Below w.heap.size w w' := by
  have HG := hid hG
  have HTx := hid (fun ls k => txD_rep ls k)
  clear hG
  go_enter Tryz.func15, Tryz.ntmps15
  go_wp2_with fail
  refine (runLines_any l _ HG.out hs).mono ?_
  rintro e w1 ⟨hr, hb⟩
  have HB1 := hid hb
  clear hb
  rcases hr with ⟨hok, rfl⟩ | ⟨hok, u, ov, rfl, ho, hov⟩
  · have HN := hid (rs_no hok)
    have HOk := hid hok
    clear hok
    go_wp2
    go_ret2
    exact ⟨.slice none 0 0, by rw [HOk.out]; rfl, by rw [HN.out]; exact StrOwn.nil _ _ _, by rw [HN.out]; simp, below_alloc HB1.out _⟩
  · have HY := hid (rs_yes hok)
    have HOk := hid hok
    have hm50 := okSc_50 hok
    obtain ⟨m, hm⟩ : ∃ m, nlD l = m := ⟨_, rfl⟩
    obtain ⟨ls, hls⟩ : ∃ ls, lnsD l = ls := ⟨_, rfl⟩
    simp only [hm, hls] at ho hov hm50 HY ⊢
    obtain ⟨uA, un, uc, rfl⟩ := ho.shape3
    obtain ⟨S, hS⟩ : ∃ S, (runD ls m).2 = S := ⟨_, rfl⟩
    rw [hS]
    have HR0 := hid (hov.read.below (below_alloc (Below.refl _ w1) (.cells #[.slice uA un uc, .int .i64 S] 30)))
    obtain ⟨A, c, hsh, -⟩ := hov.read
    subst hsh
    obtain ⟨A', c', hsh, hcell⟩ := HR0.out
    injection hsh with h1 h2 h3
    subst h1 h3
    have HCell := hid hcell
    have HB2 := hid (below_alloc HB1.out (.cells #[.slice uA un uc, .int .i64 S] 30))
    rw [outsD_length] at HCell ⊢
    clear ho hov hm hls hS hok h2 hcell HR0
    go_wp2
    generalize w1.alloc (.cells #[.slice uA un uc, .int .i64 S] 30) = W at HCell HB2 ⊢
    go_loopw [7, 20] (fun q i wr => ∃ k : Nat, k ≤ m ∧ i = .int .i64 k ∧ StrOwn 9 wr W.heap.size q (repsD ls k) ∧ Below W.heap.size W wr) (fun _ i _ => m - (intOf i).toNat)
    case atStart => exact ⟨0, Nat.zero_le _, rfl, StrOwn.nil _ _ _, Below.refl _ _⟩
    case round =>
      obtain ⟨k, hk, rfl, ho, hb⟩ := hrel
      have HO := hid ho
      have HB := hid hb
      have hwz := hb.size
      clear hb
      obtain ⟨pA, pc, rfl⟩ := ho.shape3
      have hpl := repsD_length ls k
      rw [hpl] at HO ⊢
      clear ho
      by_cases hkl : k < m
      · obtain ⟨g, hgA, hgz, hc0, hc1⟩ := HCell.out k hkl
        rw [outsD_getD a0 a1 ls hkl] at hc0 hc1
        subst hgA
        have HTk := hid (HTx.out ls k)
        have HS := hid (repsD_succ ls k)
        obtain ⟨t, ht⟩ : ∃ t, (repD ls k).1 = t := ⟨_, rfl⟩
        obtain ⟨cd, hcd⟩ : ∃ cd, (repD ls k).2 = cd := ⟨_, rfl⟩
        rw [ht, hcd] at hc0 hc1 HTk
        rw [ht] at HS
        have HTe := hid (fun W hW => text_oc (a0 := a0) (a1 := a1) ((k : Int) + 1) t cd W hW)
        obtain ⟨o0, ho0⟩ : ∃ o, (OcD a0 a1 ((k : Int) + 1) t cd).1 = o := ⟨_, rfl⟩
        obtain ⟨o1, ho1⟩ : ∃ o, (OcD a0 a1 ((k : Int) + 1) t cd).2 = o := ⟨_, rfl⟩
        rw [ho0] at hc0
        rw [ho1] at hc1
        rw [ho0, ho1, HTk.out] at HTe
        have q0 := (HB.out.cell (p := ⟨g, k * 2, none⟩) hgz).trans hc0
        have q1 := (HB.out.cell (p := ⟨g, k * 2 + 1, none⟩) hgz).trans hc1
        clear ht hcd hc0 hc1
        rcases cd with _ | _ | cd
        · obtain rfl : (.string (sB t) : Value) = o0 := ho0
          obtain rfl : (.nilIface : Value) = o1 := ho1
          have HQ := hid (below_alloc HB.out (.cells #[.string (sB t), .nilIface] 60))
          have HK := hid (Blk.new wr 60 #[.string (sB t), .nilIface])
          have HO2 := hid (StrOwn.below HO.out (below_alloc (Below.refl _ wr) (.cells #[.string (sB t), .nilIface] 60)))
          go_upto_region 8 with (fail)
          generalize wr.alloc (.cells #[.string (sB t), .nilIface] 60) = V at HQ HK HO2 ⊢
          have v0 : V.cell? ⟨wr.heap.size, 0, none⟩ = some (.string (sB t)) := HK.out.cell 0
          have v1 : V.cell? ⟨wr.heap.size, 1, none⟩ = some (.nilIface) := HK.out.cell 1
          clear q0 q1
          go_wp2_with fail
          clear v0 v1
          refine (HTe.out _ (HG.out.later (HB2.out.trans (HQ.out.mono HB2.out.size)))).mono ?_
          rintro e w3 ⟨rfl, hb3⟩
          have HQ3 := hid (below_to HQ.out hb3)
          have HO3 : Hid (StrOwn 9 w3 W.heap.size (.slice pA k pc) (repsD ls k)) := hid (HO2.out.below hb3)
          have hz3 := HQ3.out.size
          clear hb3
          go_wp2_with (at_builtin; refine wpList_append_str rfl _ _ 37 9 rfl Tryz.underlying37 Tryz.info9 W.heap.size _ (repsD ls k) t rfl HO3.out rfl rfl (by omega) (by omega) ?_; rintro q4 w4 ho4 hb4)
          have hO4 : StrOwn 9 w4 W.heap.size q4 (repsD ls (k + 1)) := by rw [HS.out]; exact ho4
          go_roundw
          case rel => exact ⟨k + 1, by omega, by go_num, hO4, HQ3.out.trans hb4⟩
          case measure => simp [intOf] <;> omega
        · obtain rfl : (.string { data := #[] } : Value) = o0 := ho0
          obtain rfl : (.iface 74 (.agg #[.int .i64 ((k : Int) + 1), .iface 269 (.pointer (some a1))]) : Value) = o1 := ho1
          have HQ := hid (below_alloc HB.out (.cells #[.string { data := #[] }, .iface 74 (.agg #[.int .i64 ((k : Int) + 1), .iface 269 (.pointer (some a1))])] 60))
          have HK := hid (Blk.new wr 60 #[.string { data := #[] }, .iface 74 (.agg #[.int .i64 ((k : Int) + 1), .iface 269 (.pointer (some a1))])])
          have HO2 := hid (StrOwn.below HO.out (below_alloc (Below.refl _ wr) (.cells #[.string { data := #[] }, .iface 74 (.agg #[.int .i64 ((k : Int) + 1), .iface 269 (.pointer (some a1))])] 60)))
          go_upto_region 8 with (fail)
          generalize wr.alloc (.cells #[.string { data := #[] }, .iface 74 (.agg #[.int .i64 ((k : Int) + 1), .iface 269 (.pointer (some a1))])] 60) = V at HQ HK HO2 ⊢
          have v0 : V.cell? ⟨wr.heap.size, 0, none⟩ = some (.string { data := #[] }) := HK.out.cell 0
          have v1 : V.cell? ⟨wr.heap.size, 1, none⟩ = some (.iface 74 (.agg #[.int .i64 ((k : Int) + 1), .iface 269 (.pointer (some a1))])) := HK.out.cell 1
          clear q0 q1
          go_wp2_with fail
          clear v0 v1
          refine (HTe.out _ (HG.out.later (HB2.out.trans (HQ.out.mono HB2.out.size)))).mono ?_
          rintro e w3 ⟨rfl, hb3⟩
          have HQ3 := hid (below_to HQ.out hb3)
          have HO3 : Hid (StrOwn 9 w3 W.heap.size (.slice pA k pc) (repsD ls k)) := hid (HO2.out.below hb3)
          have hz3 := HQ3.out.size
          clear hb3
          go_wp2_with (at_builtin; refine wpList_append_str rfl _ _ 37 9 rfl Tryz.underlying37 Tryz.info9 W.heap.size _ (repsD ls k) t rfl HO3.out rfl rfl (by omega) (by omega) ?_; rintro q4 w4 ho4 hb4)
          have hO4 : StrOwn 9 w4 W.heap.size q4 (repsD ls (k + 1)) := by rw [HS.out]; exact ho4
          go_roundw
          case rel => exact ⟨k + 1, by omega, by go_num, hO4, HQ3.out.trans hb4⟩
          case measure => simp [intOf] <;> omega
        · obtain rfl : (.string { data := #[] } : Value) = o0 := ho0
          obtain rfl : (.iface 74 (.agg #[.int .i64 ((k : Int) + 1), .iface 269 (.pointer (some a0))]) : Value) = o1 := ho1
          have HQ := hid (below_alloc HB.out (.cells #[.string { data := #[] }, .iface 74 (.agg #[.int .i64 ((k : Int) + 1), .iface 269 (.pointer (some a0))])] 60))
          have HK := hid (Blk.new wr 60 #[.string { data := #[] }, .iface 74 (.agg #[.int .i64 ((k : Int) + 1), .iface 269 (.pointer (some a0))])])
          have HO2 := hid (StrOwn.below HO.out (below_alloc (Below.refl _ wr) (.cells #[.string { data := #[] }, .iface 74 (.agg #[.int .i64 ((k : Int) + 1), .iface 269 (.pointer (some a0))])] 60)))
          go_upto_region 8 with (fail)
          generalize wr.alloc (.cells #[.string { data := #[] }, .iface 74 (.agg #[.int .i64 ((k : Int) + 1), .iface 269 (.pointer (some a0))])] 60) = V at HQ HK HO2 ⊢
          have v0 : V.cell? ⟨wr.heap.size, 0, none⟩ = some (.string { data := #[] }) := HK.out.cell 0
          have v1 : V.cell? ⟨wr.heap.size, 1, none⟩ = some (.iface 74 (.agg #[.int .i64 ((k : Int) + 1), .iface 269 (.pointer (some a0))])) := HK.out.cell 1
          clear q0 q1
          go_wp2_with fail
          clear v0 v1
          refine (HTe.out _ (HG.out.later (HB2.out.trans (HQ.out.mono HB2.out.size)))).mono ?_
          rintro e w3 ⟨rfl, hb3⟩
          have HQ3 := hid (below_to HQ.out hb3)
          have HO3 : Hid (StrOwn 9 w3 W.heap.size (.slice pA k pc) (repsD ls k)) := hid (HO2.out.below hb3)
          have hz3 := HQ3.out.size
          clear hb3
          go_wp2_with (at_builtin; refine wpList_append_str rfl _ _ 37 9 rfl Tryz.underlying37 Tryz.info9 W.heap.size _ (repsD ls k) t rfl HO3.out rfl rfl (by omega) (by omega) ?_; rintro q4 w4 ho4 hb4)
          have hO4 : StrOwn 9 w4 W.heap.size q4 (repsD ls (k + 1)) := by rw [HS.out]; exact ho4
          go_roundw
          case rel => exact ⟨k + 1, by omega, by go_num, hO4, HQ3.out.trans hb4⟩
          case measure => simp [intOf] <;> omega
      · obtain rfl : k = m := by omega
        have HBw := hid (HB2.out.trans (HB.out.mono HB2.out.size))
        have HO2 := hid (StrOwn.monoB HO.out HB2.out.size)
        go_wp2
        go_ret2
        exact ⟨.slice pA k pc, by rw [HOk.out]; rfl, by rw [HY.out]; exact HO2.out, by rw [HY.out, repsD_length]; omega, HBw.out⟩
end Go.Proofs.YtbmhaamenjhjfaaGreatDoor
namespace Go.Proofs.YtbmhaamenjhjfaaGreatDoor
open Go.RowKit Go.WideShapes Go.ChangeShapes
set_option linter.unusedVariables false
theorem specRunScript_any (l : List UInt8) (w : World) (hs : l.length ≤ 1048576) :
    Calls Tryz.prog 14 #[.string (sB l)] w fun (r : Ending) w' => ∃ u, r = Ending.returned (.tuple #[u, .bool (okSc l)]) ∧ StrOwn 9 w' w.heap.size u (scT l) ∧ (scT l).length ≤ 1048576 ∧ Below w.heap.size w w' := by
  go_enter Tryz.func14, Tryz.ntmps14
  go_wp2_with fail
  refine (coRun_any l _ hs).mono ?_
  rintro e w1 ⟨hr, hb⟩
  have HB1 := hid hb
  clear hb
  rcases hr with ⟨hok, rfl⟩ | ⟨hok, u, rv, rfl, ho, hrv⟩
  · have HN := hid (rs_no hok)
    have HOk := hid hok
    clear hok
    go_wp2
    go_ret2
    exact ⟨.slice none 0 0, by rw [HOk.out]; rfl, by rw [HN.out]; exact StrOwn.nil _ _ _, by rw [HN.out]; simp, below_alloc HB1.out _⟩
  · have HY := hid (rs_yes hok)
    have HOk := hid hok
    have HL := hid (show (repsD (lnsD l) (nlD l)).length ≤ 1048576 from by rw [repsD_length]; have := okSc_50 hok; omega)
    obtain ⟨uA, un, uc, rfl⟩ := ho.shape3
    have HR := hid hrv
    obtain ⟨rA, rc, rfl⟩ := hrv.shape3
    obtain ⟨S, hS⟩ : ∃ S, (runD (lnsD l) (nlD l)).2 = S := ⟨_, rfl⟩
    obtain ⟨n, hn⟩ : ∃ n, (repsD (lnsD l) (nlD l)).length = n := ⟨_, rfl⟩
    rw [hS]
    rw [hn] at HR ⊢
    have HR2 := hid (HR.out.below (below_alloc (Below.refl _ w1) (.cells #[.slice uA un uc, .int .i64 S] 30)))
    clear ho hrv hok hS hn
    go_wp2
    go_ret2
    exact ⟨.slice rA n rc, by rw [HOk.out]; rfl, by rw [HY.out]; exact HR2.out, by rw [HY.out]; exact HL.out, below_alloc HB1.out _⟩
end Go.Proofs.YtbmhaamenjhjfaaGreatDoor
namespace Go.Proofs.YtbmhaamenjhjfaaGreatDoor
open Go.RowKit Go.WideShapes Go.ChangeShapes
set_option linter.unusedVariables false
def mkT (k : Nat) : List UInt8 := 109 :: decD k
set_option maxRecDepth 100000 in
theorem markText_any (K : Nat) (w : World) (h0 : 0 < K) (hK : K ≤ 1000000000000) :
    Calls Tryz.prog 42 #[.int .i64 K] w fun r w' => r = .returned (.string (sB (mkT K))) ∧ Below w.heap.size w w' := by
  have HE : Hid (Value.string { data := #[] } = Value.string (sB [])) := hid rfl
  have HSz := hid (decD_size K hK)
  obtain ⟨D, hD⟩ : ∃ D, decD K = D := ⟨_, rfl⟩
  have HD := hid hD
  rw [hD] at HSz
  have HM : Hid (mkT K = 109 :: D) := hid (by rw [mkT, hD])
  have h0' : ¬ (K : Int) ≤ 0 := by omega
  clear hD
  go_enter Tryz.func42, Tryz.ntmps42
  go_wp2
  go_loopw [0, 3] (fun i s wr => ∃ (n : Nat) (ds : List UInt8), i = .int .i64 n ∧ s = .string (sB ds) ∧ n ≤ K ∧ Hid (D = (if n = 0 then [] else decD n) ++ ds) ∧ Below w.heap.size w wr) (fun i _ _ => (intOf i).toNat)
  case atStart => exact ⟨K, [], rfl, HE.out, Nat.le_refl _, hid (by rw [if_neg (by omega), List.append_nil, HD.out]), Below.refl _ _⟩
  case round =>
    obtain ⟨n, ds, rfl, rfl, hn, HDs, hb⟩ := hrel
    have HB := hid hb
    have hdl : ds.length ≤ 13 := by
      have h := congrArg List.length HDs.out
      rw [List.length_append] at h
      have := HSz.out; omega
    clear hb
    by_cases hn0 : 0 < n
    · obtain ⟨q, hq⟩ : ∃ q, n / 10 = q := ⟨_, rfl⟩
      obtain ⟨d, hd⟩ : ∃ d, n % 10 = d := ⟨_, rfl⟩
      have hd10 : d < 10 := by omega
      have hqn : q < n := by omega
      have HN : Hid (D = (if q = 0 then [] else decD q) ++ (UInt8.ofNat (48 + d) :: ds)) := hid (by
        rw [HDs.out, if_neg (by omega)]
        by_cases h10 : n < 10
        · rw [decD_lo h10, if_pos (by omega), show 48 + n = 48 + d by omega]; rfl
        · rw [decD_hi h10, if_neg (by omega), hq, hd, List.append_assoc]; rfl)
      have hq1 : Int.tdiv (n : Int) 10 = (q : Int) := by rw [Int.tdiv_eq_ediv_of_nonneg (by omega)]; omega
      have hd1 : Int.tmod (n : Int) 10 = (d : Int) := by rw [Int.tmod_eq_emod_of_nonneg (by omega)]; omega
      have hn1 : (0 : Int) < (n : Int) := by omega
      obtain ⟨by8, hby⟩ : ∃ x : UInt8, UInt8.ofNat (48 + d) = x := ⟨_, rfl⟩
      rw [hby] at HN
      obtain ⟨c, hc⟩ : ∃ c : Int, 48 + (d : Int) = c := ⟨_, rfl⟩
      have HCb := hid (fun (b : Nat) (W : World) (h : W.cell? ⟨b, 0, none⟩ = some (.int .u8 c)) => (by rw [← hby]; exact convAt d hd10 W b (by rw [hc]; exact h) : (convert 94 9 (.slice (some ⟨b, 0, none⟩) 1 1)).run Tryz.prog W = .ok (.string (sB [by8])) W))
      have hcv : ∀ W : World, (convert 94 9 (.slice (some ⟨W.heap.size, 0, none⟩) 1 1)).run Tryz.prog (W.alloc (.cells #[.int .u8 c] 5)) = .ok (.string (sB [by8])) (W.alloc (.cells #[.int .u8 c] 5)) := fun W => HCb.out _ _ ((Blk.new W 5 #[.int .u8 c]).cell 0)
      have hadd : ∀ W : World, (Op.stringOp .add (sB [by8]) (sB ds)).run Tryz.prog W = .ok (.string (sB (by8 :: ds))) W := fun W => run_sB [by8] ds (by simp <;> omega) W
      have hw1 : IntKind.i64.wrap (48 + (d : Int)) = c := by rw [IntKind.wrap_i64]; omega
      have hw2 : IntKind.u8.wrap c = c := by rw [IntKind.wrap_u8]; omega
      have hw5 : IntKind.i64.wrap c = c := by rw [IntKind.wrap_i64]; omega
      have hq2 : q ≤ K := by omega
      clear hq hd hc hby
      go_wp2
      go_roundw
      case rel => exact ⟨q, by8 :: ds, by first | rfl | go_num, rfl, hq2, HN, below_alloc HB.out _⟩
      case measure => simp [intOf] <;> omega
    · obtain rfl : n = 0 := by omega
      have HR : Hid (mkT K = 109 :: ds) := hid (by rw [HM.out, HDs.out, if_pos rfl]; rfl)
      have hadd : ∀ W : World, (Op.stringOp .add { data := #[109] } (sB ds)).run Tryz.prog W = .ok (.string (sB (109 :: ds))) W := fun W => run_sB [109] ds (by simp <;> omega) W
      go_wp2
      go_ret
      exact ⟨ret_s (by rw [HR.out]), HB.out⟩
theorem eqStringS_any (v u : Value) (ls : List (List UInt8)) (w : World) (hv : Strs w v ls) (hu : Strs w u ls) (hl : ls.length ≤ 1048576) :
    Calls Tryz.prog 16 #[v, u] w fun r w' => r = .returned (.bool true) ∧ Below w.heap.size w w' := by
  obtain ⟨A, c, rfl, hA⟩ := hv
  obtain ⟨B, d, rfl, hB⟩ := hu
  have HA := hid hA
  have HB := hid hB
  clear hA hB
  go_enter Tryz.func16, Tryz.ntmps16
  go_wp2
  go_loopw [5] (fun i wr => ∃ k : Nat, k ≤ ls.length ∧ i = .int .i64 k ∧ Below w.heap.size w wr) (fun i _ => ls.length - (intOf i).toNat)
  case atStart => exact ⟨0, Nat.zero_le _, rfl, Below.refl _ _⟩
  case round =>
    obtain ⟨k, hk, rfl, hb⟩ := hrel
    by_cases hlt : k < ls.length
    · obtain ⟨b, o, rfl, hbl, hc⟩ := HA.out k hlt
      obtain ⟨b2, o2, rfl, hbl2, hc2⟩ := HB.out k hlt
      have hcell := (hb.cell (p := ⟨b, o + k, none⟩) hbl).trans hc
      have hcell2 := (hb.cell (p := ⟨b2, o2 + k, none⟩) hbl2).trans hc2
      obtain ⟨x, hx⟩ : ∃ x, sB (ls.getD k []) = x := ⟨_, rfl⟩
      rw [hx] at hcell hcell2
      have Hb := hid hb
      have hlt' : (k : Int) < ls.length := by omega
      clear hc hb hc2 hx
      go_wp2
      go_quiet (fail)
      go_wp2
      go_roundw
      case rel => exact ⟨k + 1, by omega, by go_num, below_drewN Hb.out _⟩
      case measure => simp [intOf]; omega
    · obtain rfl : k = ls.length := by omega
      have Hb := hid hb
      clear hb
      go_wp2
      go_ret
      exact ⟨rfl, Hb.out⟩
def mkS (ls : List (List UInt8)) (k j : Nat) : List (List UInt8) := (List.range ls.length).map fun i => if i < j then mkT (k + i) else ls.getD i []
def marksT (n k : Nat) : List (List UInt8) := (List.range n).map fun i => mkT (k + i)
theorem mkS_length (ls : List (List UInt8)) (k j : Nat) : (mkS ls k j).length = ls.length := by simp [mkS]
theorem marksT_length (n k : Nat) : (marksT n k).length = n := by simp [marksT]
theorem mkS_zero (ls : List (List UInt8)) (k : Nat) : mkS ls k 0 = ls := by
  apply List.ext_getElem?
  intro i
  simp only [mkS, Nat.not_lt_zero, if_false, List.getElem?_map]
  by_cases hi : i < ls.length <;> simp [hi]
theorem mkS_full (ls : List (List UInt8)) (k : Nat) : mkS ls k ls.length = marksT ls.length k := by
  apply List.ext_getElem?
  intro i
  simp only [mkS, marksT, List.getElem?_map]
  by_cases hi : i < ls.length <;> simp [hi]
theorem mkS_set (ls : List (List UInt8)) (k j : Nat) (hj : j < ls.length) : (mkS ls k j).set j (mkT (k + j)) = mkS ls k (j + 1) := by
  apply List.ext_getElem?
  intro i
  rw [List.getElem?_set, mkS_length]
  simp only [mkS, List.getElem?_map]
  by_cases hi : i < ls.length
  · by_cases h : j = i
    · subst h; simp [hj]
    · simp only [h, if_false, List.getElem?_range hi, Option.map_some]
      by_cases h2 : i < j
      · rw [if_pos h2, if_pos (by omega)]
      · rw [if_neg h2, if_neg (by omega)]
  · rw [List.getElem?_eq_none (by simpa using hi)]
    simp; omega
theorem marksT_at (n k i : Nat) (hi : i < n) : (marksT n k).getD i [] = mkT (k + i) := by simp [marksT, List.getD, hi]
theorem StrOwn.form {ts : TypeId} {w : World} {B : Nat} {A : Option Addr} {n c : Nat} {ls : List (List UInt8)} (h : StrOwn ts w B (.slice A n c) ls) (h0 : 0 < ls.length) : ∃ g, A = some ⟨g, 0, none⟩ ∧ B ≤ g ∧ g < w.heap.size := by
  have h2 : w.ownsRow B ts 1 (.slice A n c) ls.length (strs ls) := h
  obtain ⟨g, cap, e, hB, hg⟩ := h2.form h0
  injection e with e1 e2 e3
  exact ⟨g, e1, hB, hg⟩
theorem StrOwn.set {ts : TypeId} {w : World} {B g n c : Nat} {ls : List (List UInt8)} (h : StrOwn ts w B (.slice (some ⟨g, 0, none⟩) n c) ls) (hn : n = ls.length) (j : Nat) (y : List UInt8) : StrOwn ts (w.setCell ⟨g, j, none⟩ (.string (sB y))) B (.slice (some ⟨g, 0, none⟩) n c) (ls.set j y) := by
  subst hn
  have h2 : w.ownsRow B ts 1 (.slice (some ⟨g, 0, none⟩) ls.length c) ls.length (strs ls) := h
  have h3 := (h2.stored j (.string (sB y))).1
  unfold StrOwn
  rw [List.length_set]
  have e : strs (ls.set j y) = (strs ls).set j (.string (sB y)) := by simp [strs, List.map_set]
  rw [e]; exact h3
theorem StrOwn.at {ts : TypeId} {w : World} {B g n c : Nat} {ls : List (List UInt8)} (h : StrOwn ts w B (.slice (some ⟨g, 0, none⟩) n c) ls) (hn : n = ls.length) {j : Nat} (hj : j < n) : ∃ x, w.cell? ⟨g, j, none⟩ = some x ∧ w.frozen? ⟨g, j, none⟩ = false := by
  subst hn
  have h2 : w.ownsRow B ts 1 (.slice (some ⟨g, 0, none⟩) ls.length c) ls.length (strs ls) := h
  refine ⟨_, (h2.cellAt j (by omega)).trans (List.getElem?_eq_getElem (by simpa [strs] using hj)), h2.frozenAt j⟩
set_option maxRecDepth 100000 in
theorem markStringS_any (v : Value) (ls : List (List UInt8)) (k : Nat) (B : Nat) (w : World) (hv : StrOwn 9 w B v ls) (hl : ls.length ≤ 1048576) (h0 : 1 ≤ k) (h1 : k ≤ 100000000) :
    Calls Tryz.prog 17 #[v, .int .i64 k] w fun r w' => r = .returned (.int .i64 ((k + ls.length : Nat) : Int)) ∧ StrOwn 9 w' B v (marksT ls.length k) ∧ w.grownBy w' v.ownBlock := by
  have HO := hid hv
  obtain ⟨A, c, rfl⟩ := hv.shape3
  obtain ⟨n, hn⟩ : ∃ n, ls.length = n := ⟨_, rfl⟩
  have HN := hid hn
  rw [hn] at HO hl ⊢
  clear hv hn
  go_enter Tryz.func17, Tryz.ntmps17
  go_wp2
  go_loopw [1, 5] (fun q i wr => ∃ j K : Nat, j ≤ n ∧ K = k + j ∧ i = .int .i64 j ∧ q = .int .i64 K ∧ StrOwn 9 wr B (.slice A n c) (mkS ls k j) ∧ w.grownBy wr (Value.slice A n c).ownBlock) (fun _ i _ => n - (intOf i).toNat)
  case atStart => exact ⟨0, k, Nat.zero_le _, rfl, rfl, rfl, by rw [mkS_zero]; exact HO.out, World.grownBy.refl _ _⟩
  case round =>
    obtain ⟨j, K, hj, hK, rfl, rfl, ho, hg⟩ := hrel
    by_cases hlt : j < n
    · obtain ⟨g, rfl, hgB, hgl⟩ := ho.form (by rw [mkS_length, HN.out]; omega)
      have Hg := hid hg
      have Ho := hid ho
      have hjl : j < (mkS ls k j).length := by rw [mkS_length, HN.out]; exact hlt
      have HK := hid hK
      have hK1 : 0 < K := by omega
      have hK2 : K ≤ 1000000000000 := by omega
      have hj2 : K + 1 ≤ 200000000 := by omega
      clear hg hK
      go_wp2_with fail
      refine (markText_any K _ hK1 hK2).mono ?_
      rintro e w3 ⟨rfl, hb3⟩
      have Ho3 := hid (Ho.out.below hb3)
      have Hg3 := hid (grown_trans Hg.out (grown_of_below hb3 _))
      obtain ⟨x, hc3, hf3⟩ := Ho3.out.at (by rw [mkS_length, HN.out]) hlt
      clear hb3 ho Hg Ho
      go_wp2
      go_roundw
      case rel => exact ⟨j + 1, K + 1, by omega, by have := HK.out; omega, by go_num, by go_num, by rw [← mkS_set ls k j (by rw [HN.out]; exact hlt), ← HK.out]; exact Ho3.out.set (by rw [mkS_length, HN.out]) j _, grown_setCell Hg3.out j _⟩
      case measure => simp [intOf] <;> omega
    · obtain rfl : j = n := by omega
      have Ho := hid ho
      have Hg := hid hg
      subst hK
      clear ho hg
      go_wp2
      go_ret
      refine ⟨rfl, ?_, Hg.out⟩
      have := mkS_full ls k
      rw [HN.out] at this
      rw [← this]; exact Ho.out
set_option maxRecDepth 100000 in
theorem heldStringS_any (v : Value) (n k : Nat) (w : World) (hv : Strs w v (marksT n k)) (hl : n ≤ 1048576) (h0 : 1 ≤ k) (h1 : k ≤ 100000000) :
    Calls Tryz.prog 18 #[v, .int .i64 k] w fun r w' => r = .returned (.int .i64 ((k + n : Nat) : Int)) ∧ Below w.heap.size w w' := by
  obtain ⟨A, c, rfl, hA⟩ := hv
  rw [marksT_length] at hA ⊢
  have HA := hid hA
  clear hA
  go_enter Tryz.func18, Tryz.ntmps18
  go_wp2
  go_loopw [1, 5] (fun q i wr => ∃ j K : Nat, j ≤ n ∧ K = k + j ∧ i = .int .i64 j ∧ q = .int .i64 K ∧ Below w.heap.size w wr) (fun _ i _ => n - (intOf i).toNat)
  case atStart => exact ⟨0, k, Nat.zero_le _, rfl, rfl, rfl, Below.refl _ _⟩
  case round =>
    obtain ⟨j, K, hj, hK, rfl, rfl, hb⟩ := hrel
    by_cases hlt : j < n
    · obtain ⟨b, o, rfl, hbl, hc⟩ := HA.out j hlt
      rw [marksT_at n k j hlt, ← hK] at hc
      have hcell := (hb.cell (p := ⟨b, o + j, none⟩) hbl).trans hc
      have HC := hid hc
      have HB := hid hb
      have HK := hid hK
      have hK2 : K ≤ 200000000 := by omega
      have hK1 : 0 < K := by omega
      have HMk := hid (fun W => markText_any K W hK1 (by omega))
      obtain ⟨x, hx⟩ : ∃ x, sB (mkT K) = x := ⟨_, rfl⟩
      rw [hx] at hcell HC HMk
      clear hc hb hx hK
      go_wp2
      go_region_with (go_at_call 42; refine (HMk.out _).mono ?_; rintro e w3 ⟨rfl, hb3⟩; have HB3 := hid (below_to HB.out.drew hb3); have hcell3 := (HB3.out.cell (p := ⟨b, o + j, none⟩) hbl).trans HC.out; clear hb3)
      all_goals go_wp2
      all_goals go_roundw
      all_goals first
        | exact ⟨j + 1, K + 1, by omega, by have := HK.out; omega, by go_num, by go_num, HB3.out⟩
        | (simp [intOf] <;> omega)
    · obtain rfl : j = n := by omega
      have Hb := hid hb
      subst hK
      clear hb
      go_wp2
      go_ret
      exact ⟨rfl, Hb.out⟩
theorem markStringS_one (v : Value) (ls : List (List UInt8)) (B : Nat) (w : World) (hv : StrOwn 9 w B v ls) (hl : ls.length ≤ 1048576) :
    Calls Tryz.prog 17 #[v, .int .i64 1] w fun r w' => r = .returned (.int .i64 (1 + (ls.length : Int))) ∧ StrOwn 9 w' B v (marksT ls.length 1) ∧ w.grownBy w' v.ownBlock :=
  (markStringS_any v ls 1 B w hv hl (by decide) (by decide)).mono fun _ _ ⟨h1, h2, h3⟩ => ⟨h1.trans (by rw [Int.natCast_add]; rfl), h2, h3⟩
theorem heldStringS_one (v : Value) (n : Nat) (w : World) (hv : Strs w v (marksT n 1)) (hl : n ≤ 1048576) :
    Calls Tryz.prog 18 #[v, .int .i64 1] w fun r w' => r = .returned (.int .i64 (1 + (n : Int))) ∧ Below w.heap.size w w' :=
  (heldStringS_any v n 1 w hv hl (by decide) (by decide)).mono fun _ _ ⟨h1, h2⟩ => ⟨h1.trans (by rw [Int.natCast_add]; rfl), h2⟩
theorem StrOwn.grown {ts : TypeId} {w w' : World} {B : Nat} {v : Value} {ls : List (List UInt8)} {row : Option Nat} (h : StrOwn ts w B v ls) (hg : w.grownBy w' row) (hne : v.ownBlock = none ∨ v.ownBlock ≠ row) : StrOwn ts w' B v ls := World.ownsRow.kept h hg hne
theorem StrOwn.shape4 {ts : TypeId} {w : World} {B : Nat} {v : Value} {ls : List (List UInt8)} (h : StrOwn ts w B v ls) : ∃ A n c, v = .slice A n c := by
  obtain ⟨A, c, rfl⟩ := h.shape3
  exact ⟨A, _, c, rfl⟩
end Go.Proofs.YtbmhaamenjhjfaaGreatDoor
namespace Go.Proofs.YtbmhaamenjhjfaaGreatDoor.lawRunScript
open Go.RowKit Go.WideShapes Go.ChangeShapes
set_option linter.unusedVariables false
set_option maxRecDepth 100000 in
set_option maxHeartbeats 8000000 in
theorem walk {a0 a1 : Addr} (s0 : ByteArray) (w : World) (hs0 : s0.size ≤ maxLen) (hG : GlobD w a0 a1) :
    Calls Tryz.prog 4 #[.string s0] w fun e w' => e = .returned (.bool true) ∧ Below w.heap.size w w' := by
  by_cases hbig : 1048576 < s0.size
  · have hbI : (1048576 : Int) < (s0.size : Int) := by omega
    clear hG
    go_enter Tryz.func4, Tryz.ntmps4
    go_wp2
    go_ret
    exact ⟨rfl, Below.refl _ _⟩
  have hbI : ¬ (1048576 : Int) < (s0.size : Int) := by omega
  have HG := hid hG
  clear hG
  obtain ⟨l, rfl⟩ : ∃ l, s0 = sB l := ⟨s0.data.toList, (sB_of s0).symm⟩
  have hll : l.length ≤ 1048576 := by rw [sB_size] at hbig; omega
  have HS := hid (fun W => specRunScript_any l W hll)
  have HI := hid (fun W (hW : GlobD W a0 a1) => implRunScript_any l W hW hll)
  obtain ⟨S, hS⟩ : ∃ S, sB l = S := ⟨_, rfl⟩
  obtain ⟨X, hX⟩ : ∃ X, scT l = X := ⟨_, rfl⟩
  obtain ⟨b, hb⟩ : ∃ b, okSc l = b := ⟨_, rfl⟩
  simp only [hS, hX, hb] at HS HI hbI ⊢
  clear hs0 hbig hll hS hX hb
  go_enter Tryz.func4, Tryz.ntmps4
  go_wp2_with fail
  refine (HS.out _ ).mono ?_
  rintro e w_1 ⟨u3, rfl, ho4, hl5, hb2⟩
  have G6 := hid (below_to (Below.refl _ w) hb2)
  have Z7 := hid (show w.heap.size + 0 ≤ w_1.heap.size by have := hb2.size; first | omega | (simp at this; omega))
  have hn8 := ho4
  have HL9 := hid hl5
  obtain ⟨u3A, u3n, u3c, rfl⟩ := hn8.shape4
  have U10 := hid (StrOwn.ownLt hn8)
  have F11 := hid hn8
  clear hb2 hn8 ho4 hl5
  go_wp2_with fail
  refine (HI.out _ (HG.out.later G6.out) ).mono ?_
  rintro e w_12 ⟨u14, rfl, ho15, hl16, hb13⟩
  have F17 := hid (F11.out.below hb13)
  have G18 := hid (below_to G6.out hb13)
  have Z19 := hid (show w_1.heap.size + 0 ≤ w_12.heap.size by have := hb13.size; first | omega | (simp at this; omega))
  have hn20 := ho15
  have HL21 := hid hl16
  obtain ⟨u14A, u14n, u14c, rfl⟩ := hn20.shape4
  have U22 := hid (StrOwn.ownLt hn20)
  have F23 := hid hn20
  clear F11 G6 hb13 hn20 ho15 hl16
  go_wp2_with fail
  refine (eqStringS_any _ _ (X) _ F23.out.read F17.out.read HL21.out).mono ?_
  rintro e w_24 ⟨rfl, hb25⟩
  have F26 := hid (F17.out.below hb25)
  have F27 := hid (F23.out.below hb25)
  have G28 := hid (below_to G18.out hb25)
  have Z29 := hid (show w_12.heap.size + 0 ≤ w_24.heap.size by have := hb25.size; first | omega | (simp at this; omega))
  clear F17 F23 G18 hb25
  go_wp2_with fail
  refine (markStringS_one _ (X) _ _ F27.out HL21.out).mono ?_
  rintro e w_30 ⟨rfl, ho31, hg32⟩
  have qZ7 := Z7.out
  have qZ19 := Z19.out
  have qZ29 := Z29.out
  have F33 := hid (F26.out.grown hg32 (row_ne_row (U10.out) (U22.out) (by omega)))
  have G34 := hid (below_grown G28.out hg32 (fun k hk => by have := U22.out k hk; omega))
  have Z35 := hid (show w_24.heap.size + 0 ≤ w_30.heap.size by have := hg32.size; first | omega | (simp at this; omega))
  clear qZ7 qZ19 qZ29
  have F36 := hid ho31
  clear F26 G28 F27 ho31 hg32
  go_wp2_with fail
  refine (heldStringS_one _ _ _ F36.out.read HL21.out).mono ?_
  rintro e w_37 ⟨rfl, hb38⟩
  have F39 := hid (F33.out.below hb38)
  have F40 := hid (F36.out.below hb38)
  have G41 := hid (below_to G34.out hb38)
  have Z42 := hid (show w_30.heap.size + 0 ≤ w_37.heap.size by have := hb38.size; first | omega | (simp at this; omega))
  clear F33 F36 G34 hb38
  go_wp2_with fail
  refine (HI.out _ (HG.out.later G41.out) ).mono ?_
  rintro e w_43 ⟨u45, rfl, ho46, hl47, hb44⟩
  have F48 := hid (F39.out.below hb44)
  have F49 := hid (F40.out.below hb44)
  have G50 := hid (below_to G41.out hb44)
  have Z51 := hid (show w_37.heap.size + 0 ≤ w_43.heap.size by have := hb44.size; first | omega | (simp at this; omega))
  have hn52 := ho46
  have HL53 := hid hl47
  obtain ⟨u45A, u45n, u45c, rfl⟩ := hn52.shape4
  have U54 := hid (StrOwn.ownLt hn52)
  have F55 := hid hn52
  clear F39 F40 G41 hb44 hn52 ho46 hl47
  go_wp2_with fail
  refine (eqStringS_any _ _ (X) _ F55.out.read F48.out.read HL53.out).mono ?_
  rintro e w_56 ⟨rfl, hb57⟩
  have F58 := hid (F48.out.below hb57)
  have F59 := hid (F49.out.below hb57)
  have F60 := hid (F55.out.below hb57)
  have G61 := hid (below_to G50.out hb57)
  have Z62 := hid (show w_43.heap.size + 0 ≤ w_56.heap.size by have := hb57.size; first | omega | (simp at this; omega))
  clear F48 F49 F55 G50 hb57
  go_wp2_with fail
  refine (heldStringS_one _ _ _ F59.out.read HL21.out).mono ?_
  rintro e w_63 ⟨rfl, hb64⟩
  have F65 := hid (F58.out.below hb64)
  have F66 := hid (F59.out.below hb64)
  have F67 := hid (F60.out.below hb64)
  have G68 := hid (below_to G61.out hb64)
  have Z69 := hid (show w_56.heap.size + 0 ≤ w_63.heap.size by have := hb64.size; first | omega | (simp at this; omega))
  clear F58 F59 F60 G61 hb64
  go_wp2
  go_ret
  exact ⟨rfl, G68.out⟩
end Go.Proofs.YtbmhaamenjhjfaaGreatDoor.lawRunScript
