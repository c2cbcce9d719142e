/- ShelfK DskT DskZl DskVl DskUl -/
import Derived.Shelf.Strings.Split
import Derived.Shelf.Strings.Search3
import Derived.Shelf.Strconv.Itoa3
import Derived.Test.YtbmhaamenjhjfaaGreatDoorProg
import Derived.Lib.IndexAny
import Derived.Deep.RegionWith
import Derived.Test.YtbmhaamenjhjfaaGreatDoorPkD41
import Derived.Test.YtbmhaamenjhjfaaGreatDoorPkD42
import Derived.Test.YtbmhaamenjhjfaaGreatDoorPkD45
namespace Go.Proofs
open Go.Shelf
def Tryz.lays144_ren : Go.Shelf.Ren := ⟨fun | 144 => 33 | 143 => 52 | 219 => 96 | 217 => 150 | 225 => 151 | 224 => 152 | 267 => 153 | 266 => 189 | 314 => 190 | n => n, fun | 9 => 9 | 4 => 4 | 3 => 3 | 5 => 5 | 46 => 170 | 146 => 206 | 51 => 205 | n => n, fun | 1 => 3 | n => n⟩
theorem Tryz.lays144 : Go.Proofs.Lays.n144 Tryz.prog Tryz.lays144_ren := {
  mixed := by kernel_rfl
  f143 := Tryz.func52.trans (congrArg some (by kernel_rfl))
  f144 := Tryz.func33.trans (congrArg some (by kernel_rfl))
  f217 := Tryz.func150.trans (congrArg some (by kernel_rfl))
  f219 := Tryz.func96.trans (congrArg some (by kernel_rfl))
  f224 := Tryz.func152.trans (congrArg some (by kernel_rfl))
  f225 := Tryz.func151.trans (congrArg some (by kernel_rfl))
  f266 := Tryz.func189.trans (congrArg some (by kernel_rfl))
  f267 := Tryz.func153.trans (congrArg some (by kernel_rfl))
  f314 := Tryz.func190.trans (congrArg some (by kernel_rfl))
  t3 := Tryz.underlying3
  a3 := Tryz.isAgg3
  z3 := Tryz.sizeOf3
  v3 := Tryz.zeroValue3
  t4 := Tryz.underlying4
  a4 := Tryz.isAgg4
  z4 := Tryz.sizeOf4
  v4 := Tryz.zeroValue4
  t5 := Tryz.underlying5
  a5 := Tryz.isAgg5
  z5 := Tryz.sizeOf5
  v5 := Tryz.zeroValue5
  t9 := Tryz.underlying9
  a9 := Tryz.isAgg9
  z9 := Tryz.sizeOf9
  v9 := Tryz.zeroValue9
  t46 := Tryz.underlying170
  a46 := Tryz.isAgg170
  z46 := Tryz.sizeOf170
  v46 := Tryz.zeroValue170
  t51 := Tryz.underlying205
  a51 := Tryz.isAgg205
  z51 := Tryz.sizeOf205
  v51 := Tryz.zeroValue205
  t146 := Tryz.underlying206
  a146 := Tryz.isAgg206
  z146 := Tryz.sizeOf206
  v146 := Tryz.zeroValue206
  g1 := by kernel_rfl }
open Go.RowKit Go.Lib in
theorem Tryz.strings_Contains_one (s : ByteArray) (c : UInt8) (w : World) :
    Calls Tryz.prog 33 #[.string s, .string ⟨#[c]⟩] w fun e w' => e = .returned (.bool (decide (0 ≤ Lib.indexByte s.data.toList c))) ∧ w' = w := Any.strings_Contains_one Tryz.lays144 s c w
end Go.Proofs
namespace Go.Proofs.YtbmhaamenjhjfaaGreatDoor
open Go.RowKit Go.WideShapes Go.ChangeShapes
set_option linter.unusedVariables false
theorem errIs_two' {w : World} {a0 a1 : Addr} (hG : GlobD w a0 a1) :
    Calls Tryz.prog 55 #[.iface 269 (.pointer (some a0)), .iface 269 (.pointer (some a1))] w fun e w' => e = .returned (.bool false) ∧ w' = w := by
  obtain ⟨c0, t0, h0⟩ := hG.blk0
  obtain ⟨c1, t1, h1⟩ := hG.blk1
  exact errIs_other a0 a1 c0 c1 t0 t1 w hG.ne h0 h1
theorem text_no (w : World) {a0 a1 : Addr} (hG : GlobD w a0 a1) :
    Calls Tryz.prog 36 #[.agg #[.string { data := #[] }, .iface 269 (.pointer (some a1))]] w fun r w' => r = .returned (.string { data := #[110, 111] }) ∧ Below w.heap.size w w' := by
  have HG := hid hG
  have HK := hid (Blk.new w 60 #[.string { data := #[] }, .iface 269 (.pointer (some a1))])
  have HB := hid (below_alloc (Below.refl _ w) (.cells #[.string { data := #[] }, .iface 269 (.pointer (some a1))] 60))
  clear hG
  go_enter Tryz.func36, Tryz.ntmps36
  go_upto_region 1 with (fail)
  generalize w.alloc (.cells #[.string { data := #[] }, .iface 269 (.pointer (some a1))] 60) = W0 at HK HB ⊢
  have c1 : W0.cell? ⟨w.heap.size, 1, none⟩ = some (.iface 269 (.pointer (some a1))) := HK.out.cell 1
  have g1 := (HG.out.later HB.out).no
  go_wp2_with fail
  clear c1 g1
  refine (errIs_same _ _).mono ?_
  rintro e W1 ⟨rfl, hb⟩
  obtain rfl := hb
  go_wp2
  go_ret
  exact ⟨rfl, HB.out⟩
theorem text_what (w : World) {a0 a1 : Addr} (hG : GlobD w a0 a1) :
    Calls Tryz.prog 36 #[.agg #[.string { data := #[] }, .iface 269 (.pointer (some a0))]] w fun r w' => r = .returned (.string { data := #[119, 104, 97, 116] }) ∧ Below w.heap.size w w' := by
  have HG := hid hG
  have HK := hid (Blk.new w 60 #[.string { data := #[] }, .iface 269 (.pointer (some a0))])
  have HB := hid (below_alloc (Below.refl _ w) (.cells #[.string { data := #[] }, .iface 269 (.pointer (some a0))] 60))
  clear hG
  go_enter Tryz.func36, Tryz.ntmps36
  go_upto_region 1 with (fail)
  generalize w.alloc (.cells #[.string { data := #[] }, .iface 269 (.pointer (some a0))] 60) = W0 at HK HB ⊢
  have c1 : W0.cell? ⟨w.heap.size, 1, none⟩ = some (.iface 269 (.pointer (some a0))) := HK.out.cell 1
  have g1 := (HG.out.later HB.out).no
  go_wp2_with fail
  clear c1 g1
  refine (errIs_two' (HG.out.later HB.out)).mono ?_
  rintro e W1 ⟨rfl, hb⟩
  obtain rfl := hb
  have c1 : W1.cell? ⟨w.heap.size, 1, none⟩ = some (.iface 269 (.pointer (some a0))) := HK.out.cell 1
  have g0 := (HG.out.later HB.out).what
  go_wp2_with fail
  clear c1 g0
  refine (errIs_same _ _).mono ?_
  rintro e W2 ⟨rfl, hb⟩
  obtain rfl := hb
  go_wp2
  go_ret
  exact ⟨rfl, HB.out⟩
end Go.Proofs.YtbmhaamenjhjfaaGreatDoor
namespace Go.Proofs.YtbmhaamenjhjfaaGreatDoor
open Go.RowKit Go.WideShapes Go.ChangeShapes
set_option linter.unusedVariables false
def okDL (xs : List Int) (s : Int) (l : List UInt8) : Bool := okIdeal xs s && (decide (l.length ≤ 3000) && !(l.contains 10))
def dlX (xs : List Int) (s : Int) (l : List UInt8) : List Int := if okDL xs s l then (stepD xs s l).1 else []
def dlS (xs : List Int) (s : Int) (l : List UInt8) : Int := if okDL xs s l then (stepD xs s l).2.1 else 0
def dlT (xs : List Int) (s : Int) (l : List UInt8) : List UInt8 := if okDL xs s l then (stepD xs s l).2.2.1 else []
theorem dl_no {xs : List Int} {s : Int} {l : List UInt8} (h : okDL xs s l = false) : dlX xs s l = [] ∧ dlS xs s l = 0 ∧ dlT xs s l = [] := by simp [dlX, dlS, dlT, h]
theorem dl_yes {xs : List Int} {s : Int} {l : List UInt8} (h : okDL xs s l = true) : dlX xs s l = (stepD xs s l).1 ∧ dlS xs s l = (stepD xs s l).2.1 ∧ dlT xs s l = (stepD xs s l).2.2.1 := by simp [dlX, dlS, dlT, h]
theorem step_len {xs : List Int} {s : Int} (l : List UInt8) (h : okIdeal xs s = true) : (stepD xs s l).1.length ≤ 1048576 := by
  obtain ⟨z, -, hg, -, -⟩ := okIdeal_all (stepD_inv l h).1
  have := (good_length hg).2; omega
theorem dlX_len (xs : List Int) (s : Int) (l : List UInt8) : (dlX xs s l).length ≤ 1048576 := by
  cases h : okDL xs s l
  · rw [(dl_no h).1]; simp
  · rw [(dl_yes h).1]
    simp only [okDL, Bool.and_eq_true] at h
    exact step_len l h.1
theorem split_one (l : List UInt8) : decide (1 < ((splitL 10 l).length : Int)) = l.contains 10 := by
  rcases mem_cut 10 l with h | ⟨x, y, rfl, hx⟩
  · rw [splitL_eq, splR_no h]
    simp [h]
  · rw [splitL_eq, splR_cons hx, List.length_cons]
    have := List.length_pos_iff.2 (splR_ne 10 y)
    simp; omega
theorem txD_step {xs : List Int} {s : Int} (l : List UInt8) (h : okIdeal xs s = true) : txD (stepD xs s l).2.2.1 (stepD xs s l).2.2.2 = (stepD xs s l).2.2.1 := by
  rcases (stepD_inv l h).2 with ⟨h, -⟩ | ⟨h1, h2⟩ | ⟨h1, h2⟩
  · rw [h]; rfl
  · rw [h1, h2]; rfl
  · rw [h1, h2]; rfl
end Go.Proofs.YtbmhaamenjhjfaaGreatDoor
namespace Go.Proofs.YtbmhaamenjhjfaaGreatDoor
open Go.RowKit Go.WideShapes Go.ChangeShapes
set_option linter.unusedVariables false
structure DZ (w W : World) (dv : Value) (s : Int) : Prop where
  k0 : Blk W w.heap.size 30 #[dv, .int .i64 s]
  k1 : Blk W (w.heap.size + 1) 30 #[.slice none 0 0, .int .i64 0]
  bel : Below w.heap.size w W
theorem DZ.below {w W W' : World} {dv : Value} {s : Int} (H : DZ w W dv s) (hb : Below W.heap.size W W') : DZ w W' dv s := ⟨H.k0.below hb H.k0.lt, H.k1.below hb H.k1.lt, below_to H.bel hb⟩
theorem DZ.new (w : World) (dv : Value) (s : Int) : DZ w ((w.alloc (.cells #[dv, .int .i64 s] 30)).alloc (.cells #[.slice none 0 0, .int .i64 0] 30)) dv s :=
  ⟨(Blk.new w _ _).alloc _, Blk.newAt _ _ _ _ (by simp), below_alloc (below_alloc (Below.refl _ _) _) _⟩
structure DY (w W : World) (dv : Value) (s : Int) (h : Nat) (d0 d1 o0 o1 : Value) : Prop where
  z : DZ w W dv s
  k2 : Blk W h 30 #[d0, d1]
  k3 : Blk W (h + 1) 60 #[o0, o1]
  hh : w.heap.size + 2 ≤ h
theorem DY.below {w W W' : World} {dv : Value} {s : Int} {h : Nat} {d0 d1 o0 o1 : Value} (H : DY w W dv s h d0 d1 o0 o1) (hb : Below W.heap.size W W') : DY w W' dv s h d0 d1 o0 o1 := ⟨H.z.below hb, H.k2.below hb H.k2.lt, H.k3.below hb H.k3.lt, H.hh⟩
theorem DY.new {w W : World} {dv : Value} {s : Int} (H : DZ w W dv s) (d0 d1 o0 o1 : Value) : DY w ((W.alloc (.cells #[d0, d1] 30)).alloc (.cells #[o0, o1] 60)) dv s W.heap.size d0 d1 o0 o1 :=
  ⟨(H.below (below_alloc (Below.refl _ W) _)).below (below_alloc (Below.refl _ _) _), (Blk.new W _ _).alloc _, Blk.newAt _ _ _ _ (by simp), H.k1.lt⟩
theorem DY.put {w W : World} {dv : Value} {s : Int} {h : Nat} {d0 d1 o0 o1 : Value} (H : DY w W dv s h d0 d1 o0 o1) (y : Value) : DY w (W.setCell ⟨h, 0, none⟩ y) dv s h y d1 o0 o1 := by
  have := H.hh
  exact ⟨⟨(Below.heap_setCell W ⟨h, 0, none⟩ y _ (by simp only; omega)).trans H.z.k0, (Below.heap_setCell W ⟨h, 0, none⟩ y _ (by simp only; omega)).trans H.z.k1, H.z.bel.setCell (p := ⟨h, 0, none⟩) (by show w.heap.size ≤ h; omega) y⟩, H.k2.set_ 0 y, (Below.heap_setCell W ⟨h, 0, none⟩ y _ (by simp only; omega)).trans H.k3, this⟩
set_option maxRecDepth 100000 in
set_option maxHeartbeats 1600000 in
theorem implDeskLine_any (v : Value) (xs : List Int) (n : Int) (l : List UInt8) (w : World) {a0 a1 : Addr} (hG : GlobD w a0 a1) (hv : Ints w v xs) (hl : xs.length ≤ 1048576) :
    Calls Tryz.prog 10 #[.agg #[v, .int .i64 n], .string (sB l)] w fun (r : Ending) w' => ∃ u, r = Ending.returned (.tuple #[.agg #[u, .int .i64 (dlS xs n l)], .string (sB (dlT xs n l)), .bool (okDL xs n l)]) ∧ OwnI 3 w' w.heap.size u (dlX xs n l) ∧ (dlX xs n l).length ≤ 1048576 ∧ Below w.heap.size w w' := by
  have HG := hid hG
  have HV := hid hv
  have HL := hid (dlX_len xs n l)
  have HNo := hid (dl_no (xs := xs) (s := n) (l := l))
  have HYes := hid (dl_yes (xs := xs) (s := n) (l := l))
  have HOkE : Hid (okDL xs n l = (okIdeal xs n && (decide (l.length ≤ 3000) && !(l.contains 10)))) := hid rfl
  have hsz := sB_size l
  have hct : ∀ W : World, Calls Tryz.prog 33 #[.string (sB l), .string { data := #[10] }] W fun e w' => e = .returned (.bool (l.contains 10)) ∧ w' = W := fun W => by
    have h := Tryz.strings_Contains_one (sB l) 10 W
    rw [sB_list, ← Lib.contains_iff_indexByte] at h
    exact h
  have HCt := hid hct
  have HEx := hid (fun hok hlen v W hW hvW => execute_any (a0 := a0) (a1 := a1) v xs n l W hW hvW hok hlen)
  have HTx := hid (fun hok => txD_step (xs := xs) (s := n) l hok)
  obtain ⟨A, c, rfl, -⟩ := hv
  have HZ := hid (DZ.new w (.slice A xs.length c) n)
  obtain ⟨S, hS⟩ : ∃ S, sB l = S := ⟨_, rfl⟩
  rw [hS] at HCt HEx hsz ⊢
  clear hG hct hS
  go_enter Tryz.func10, Tryz.ntmps10
  go_wp2_with fail
  generalize ((w.alloc (.cells #[.slice A xs.length c, .int .i64 n] 30)).alloc (.cells #[.slice none 0 0, .int .i64 0] 30)) = W at HZ ⊢
  refine (implIsDesk_any _ xs n _ (HV.out.below HZ.out.bel) hl).mono ?_
  rintro e W1 ⟨rfl, hb⟩
  have HZ1 := hid (HZ.out.below hb)
  clear hb HZ
  cases hoi : okIdeal xs n
  · have HOI := hid hoi
    clear hoi
    have HOk : Hid (okDL xs n l = false) := hid (by rw [HOkE.out]; rw [HOI.out]; rfl)
    have r0 : W1.cell? ⟨w.heap.size + 1, 0, none⟩ = some (.slice none 0 0) := HZ1.out.k1.cell 0
    have yr0 := HZ1.out.k1.frozen 0
    have r1 : W1.cell? ⟨w.heap.size + 1, 1, none⟩ = some (.int .i64 0) := HZ1.out.k1.cell 1
    have yr1 := HZ1.out.k1.frozen 1
    go_wp2
    refine bodyPost_ret (v := .tuple #[.agg #[.slice none 0 0, .int .i64 0], .string { data := #[] }, .bool false]) (by simp [results, Tryz.results10, go_sem, r0, r1]) rfl ⟨_, by rw [(HNo.out HOk.out).2.1, (HNo.out HOk.out).2.2, HOk.out]; rfl, by rw [(HNo.out HOk.out).1]; exact OwnI.nil _ _ _, HL.out, ?_⟩
    exact below_put2 HZ1.out.bel (w.heap.size + 1) (by omega) _ _
  · have HOI := hid hoi
    clear hoi
    by_cases h3 : l.length ≤ 3000
    · have h3' : ¬ (3000 : Int) < (S.size : Int) := by omega
      go_wp2_with fail
      refine (HCt.out _).mono ?_
      rintro e w' ⟨rfl, hw⟩
      rw [hw]
      clear hw w'
      cases hco : l.contains 10
      · have HCO := hid hco
        have HOk : Hid (okDL xs n l = true) := hid (by rw [HOkE.out, HOI.out, HCO.out, decide_eq_true h3]; rfl)
        clear hco
        have d0 : W1.cell? ⟨w.heap.size, 0, none⟩ = some (.slice A xs.length c) := HZ1.out.k0.cell 0
        have d1 : W1.cell? ⟨w.heap.size, 1, none⟩ = some (.int .i64 n) := HZ1.out.k0.cell 1
        go_wp2_with fail
        clear d0 d1
        refine (HEx.out HOI.out h3 _ _ (HG.out.later HZ1.out.bel) (HV.out.below HZ1.out.bel)).mono ?_
        rintro e W2 ⟨⟨u, rfl, hu⟩, hb⟩
        have hx1 := HYes.out HOk.out
        have htx := HTx.out HOI.out
        have hsl := step_len l HOI.out
        obtain ⟨X, hX⟩ : ∃ X, stepD xs n l = X := ⟨_, rfl⟩
        obtain ⟨xs', s', t, code⟩ := X
        rw [hX] at hu hx1 htx hsl ⊢
        simp only at hu hx1 htx hsl ⊢
        have HX1 := hid hx1
        have HTe := hid htx
        have HSl := hid hsl
        have HZ2 := hid (HZ1.out.below hb)
        have hui : Ints W2 u xs' := by
          rcases hu with ⟨rfl, rfl⟩ | h
          · exact HV.out.below (below_to HZ1.out.bel hb)
          · exact h.ints
        have HU := hid hui
        obtain ⟨uA, uc, rfl, -⟩ := hui
        obtain ⟨un, hun⟩ : ∃ k, xs'.length = k := ⟨_, rfl⟩
        rw [hun] at HU ⊢
        clear hX hx1 htx hsl hu hb hun
        obtain ⟨o0, ho0⟩ : ∃ o, (OutD a0 a1 t code).1 = o := ⟨_, rfl⟩
        obtain ⟨o1, ho1⟩ : ∃ o, (OutD a0 a1 t code).2 = o := ⟨_, rfl⟩
        rw [ho0, ho1]
        rcases code with _ | _ | code
        · obtain rfl : (.string (sB t) : Value) = o0 := ho0
          obtain rfl : (.nilIface : Value) = o1 := ho1
          have HY := hid (DY.new HZ2.out (.slice uA un uc) (.int .i64 s') (.string (sB t)) (.nilIface))
          have HUV := hid (HU.out.below (below_alloc (below_alloc (Below.refl _ W2) (.cells #[.slice uA un uc, .int .i64 s'] 30)) (.cells #[.string (sB t), .nilIface] 60)))
          go_upto_region 4 with (fail)
          obtain ⟨h, hh⟩ : ∃ h, W2.heap.size = h := ⟨_, rfl⟩
          rw [hh] at HY
          generalize (W2.alloc (.cells #[.slice uA un uc, .int .i64 s'] 30)).alloc (.cells #[.string (sB t), .nilIface] 60) = V at HY HUV ⊢
          rw [hh]
          clear hh
          have n0 : V.cell? ⟨h, 0, none⟩ = some (.slice uA un uc) := HY.out.k2.cell 0
          go_wp2_with fail
          clear n0
          refine (cloneI_any _ xs' _ HUV.out HSl.out).mono ?_
          rintro e V2 ⟨q, rfl, ho, hb⟩
          have HY2 := hid (HY.out.below hb)
          have HO := hid ho
          have hVh : h + 2 ≤ V.heap.size := HY.out.k3.lt
          obtain ⟨qA, qn, qc, rfl⟩ := ho.shape3
          clear ho hb
          have n0 : V2.cell? ⟨h, 0, none⟩ = some (.slice uA un uc) := HY2.out.k2.cell 0
          have nf := HY2.out.k2.frozen 0
          have HY3 := hid (HY2.out.put (.slice qA qn qc))
          have HO3 := hid (own_setX HO.out (by omega) 0 (.slice qA qn qc) : OwnI 3 (V2.setCell ⟨h, 0, none⟩ (.slice qA qn qc)) V.heap.size (.slice qA qn qc) xs')
          go_upto_region 5 with (fail)
          generalize V2.setCell ⟨h, 0, none⟩ (.slice qA qn qc) = V3 at HY3 HO3 ⊢
          clear n0 nf
          have HYd := hid (show DY w V3.drew _ _ _ _ _ _ _ from HY3.out.below (below_drewN (Below.refl _ V3) 1))
          have HOd : Hid (OwnI 3 V3.drew V.heap.size (.slice qA qn qc) xs') := hid (HO3.out.below (below_drewN (Below.refl _ V3) 1))
          have hhh := HY3.out.hh
          have n0 : V3.cell? ⟨h, 0, none⟩ = some (.slice qA qn qc) := HY3.out.k2.cell 0
          have n1 : V3.cell? ⟨h, 1, none⟩ = some (.int .i64 s') := HY3.out.k2.cell 1
          have m0 : V3.cell? ⟨h + 1, 0, none⟩ = some (.string (sB t)) := HY3.out.k3.cell 0
          have m1 : V3.cell? ⟨h + 1, 1, none⟩ = some (.nilIface) := HY3.out.k3.cell 1
          go_region_with (first | (go_at_call 36; refine (text_ok t _ (HG.out.later HYd.out.z.bel)).mono ?_; rintro e V4 ⟨rfl, hb⟩; have HY4 := hid (HYd.out.below hb); have HO4 := hid (HOd.out.below hb); have g0 : V4.cell? ⟨h, 0, none⟩ = some (.slice qA qn qc) := HY4.out.k2.cell 0; have g1 : V4.cell? ⟨h, 1, none⟩ = some (.int .i64 s') := HY4.out.k2.cell 1; have q0 : V4.cell? ⟨w.heap.size + 1, 0, none⟩ = some (.slice none 0 0) := HY4.out.z.k1.cell 0; have yq0 := HY4.out.z.k1.frozen 0; have q1 : V4.cell? ⟨w.heap.size + 1, 1, none⟩ = some (.int .i64 0) := HY4.out.z.k1.cell 1; have yq1 := HY4.out.z.k1.frozen 1; clear hb))
          all_goals
            go_wp2
            refine bodyPost_ret (v := .tuple #[.agg #[.slice qA qn qc, .int .i64 s'], .string (sB t), .bool true]) (by simp [results, Tryz.results10, go_sem, q0, q1]) rfl ⟨_, by rw [HX1.out.2.1, HX1.out.2.2, HOk.out, ← HTe.out], ?_, HL.out, ?_⟩
            · rw [HX1.out.1]; exact (own_setX (own_setX HO4.out (by omega) 0 _) (by omega) 1 _).mono (by omega)
            · exact below_put2 HY4.out.z.bel (w.heap.size + 1) (by omega) _ _
        · obtain rfl : (.string { data := #[] } : Value) = o0 := ho0
          obtain rfl : (.iface 269 (.pointer (some a1)) : Value) = o1 := ho1
          have HY := hid (DY.new HZ2.out (.slice uA un uc) (.int .i64 s') (.string { data := #[] }) (.iface 269 (.pointer (some a1))))
          have HUV := hid (HU.out.below (below_alloc (below_alloc (Below.refl _ W2) (.cells #[.slice uA un uc, .int .i64 s'] 30)) (.cells #[.string { data := #[] }, .iface 269 (.pointer (some a1))] 60)))
          go_upto_region 4 with (fail)
          obtain ⟨h, hh⟩ : ∃ h, W2.heap.size = h := ⟨_, rfl⟩
          rw [hh] at HY
          generalize (W2.alloc (.cells #[.slice uA un uc, .int .i64 s'] 30)).alloc (.cells #[.string { data := #[] }, .iface 269 (.pointer (some a1))] 60) = V at HY HUV ⊢
          rw [hh]
          clear hh
          have n0 : V.cell? ⟨h, 0, none⟩ = some (.slice uA un uc) := HY.out.k2.cell 0
          go_wp2_with fail
          clear n0
          refine (cloneI_any _ xs' _ HUV.out HSl.out).mono ?_
          rintro e V2 ⟨q, rfl, ho, hb⟩
          have HY2 := hid (HY.out.below hb)
          have HO := hid ho
          have hVh : h + 2 ≤ V.heap.size := HY.out.k3.lt
          obtain ⟨qA, qn, qc, rfl⟩ := ho.shape3
          clear ho hb
          have n0 : V2.cell? ⟨h, 0, none⟩ = some (.slice uA un uc) := HY2.out.k2.cell 0
          have nf := HY2.out.k2.frozen 0
          have HY3 := hid (HY2.out.put (.slice qA qn qc))
          have HO3 := hid (own_setX HO.out (by omega) 0 (.slice qA qn qc) : OwnI 3 (V2.setCell ⟨h, 0, none⟩ (.slice qA qn qc)) V.heap.size (.slice qA qn qc) xs')
          go_upto_region 5 with (fail)
          generalize V2.setCell ⟨h, 0, none⟩ (.slice qA qn qc) = V3 at HY3 HO3 ⊢
          clear n0 nf
          have HYd := hid (show DY w V3.drew _ _ _ _ _ _ _ from HY3.out.below (below_drewN (Below.refl _ V3) 1))
          have HOd : Hid (OwnI 3 V3.drew V.heap.size (.slice qA qn qc) xs') := hid (HO3.out.below (below_drewN (Below.refl _ V3) 1))
          have hhh := HY3.out.hh
          have n0 : V3.cell? ⟨h, 0, none⟩ = some (.slice qA qn qc) := HY3.out.k2.cell 0
          have n1 : V3.cell? ⟨h, 1, none⟩ = some (.int .i64 s') := HY3.out.k2.cell 1
          have m0 : V3.cell? ⟨h + 1, 0, none⟩ = some (.string { data := #[] }) := HY3.out.k3.cell 0
          have m1 : V3.cell? ⟨h + 1, 1, none⟩ = some (.iface 269 (.pointer (some a1))) := HY3.out.k3.cell 1
          go_region_with (first | (go_at_call 36; refine (text_no _ (HG.out.later HYd.out.z.bel)).mono ?_; rintro e V4 ⟨rfl, hb⟩; have HY4 := hid (HYd.out.below hb); have HO4 := hid (HOd.out.below hb); have g0 : V4.cell? ⟨h, 0, none⟩ = some (.slice qA qn qc) := HY4.out.k2.cell 0; have g1 : V4.cell? ⟨h, 1, none⟩ = some (.int .i64 s') := HY4.out.k2.cell 1; have q0 : V4.cell? ⟨w.heap.size + 1, 0, none⟩ = some (.slice none 0 0) := HY4.out.z.k1.cell 0; have yq0 := HY4.out.z.k1.frozen 0; have q1 : V4.cell? ⟨w.heap.size + 1, 1, none⟩ = some (.int .i64 0) := HY4.out.z.k1.cell 1; have yq1 := HY4.out.z.k1.frozen 1; clear hb))
          all_goals
            go_wp2
            refine bodyPost_ret (v := .tuple #[.agg #[.slice qA qn qc, .int .i64 s'], .string { data := #[110, 111] }, .bool true]) (by simp [results, Tryz.results10, go_sem, q0, q1]) rfl ⟨_, by rw [HX1.out.2.1, HX1.out.2.2, HOk.out, ← HTe.out]; rfl, ?_, HL.out, ?_⟩
            · rw [HX1.out.1]; exact (own_setX (own_setX HO4.out (by omega) 0 _) (by omega) 1 _).mono (by omega)
            · exact below_put2 HY4.out.z.bel (w.heap.size + 1) (by omega) _ _
        · obtain rfl : (.string { data := #[] } : Value) = o0 := ho0
          obtain rfl : (.iface 269 (.pointer (some a0)) : Value) = o1 := ho1
          have HY := hid (DY.new HZ2.out (.slice uA un uc) (.int .i64 s') (.string { data := #[] }) (.iface 269 (.pointer (some a0))))
          have HUV := hid (HU.out.below (below_alloc (below_alloc (Below.refl _ W2) (.cells #[.slice uA un uc, .int .i64 s'] 30)) (.cells #[.string { data := #[] }, .iface 269 (.pointer (some a0))] 60)))
          go_upto_region 4 with (fail)
          obtain ⟨h, hh⟩ : ∃ h, W2.heap.size = h := ⟨_, rfl⟩
          rw [hh] at HY
          generalize (W2.alloc (.cells #[.slice uA un uc, .int .i64 s'] 30)).alloc (.cells #[.string { data := #[] }, .iface 269 (.pointer (some a0))] 60) = V at HY HUV ⊢
          rw [hh]
          clear hh
          have n0 : V.cell? ⟨h, 0, none⟩ = some (.slice uA un uc) := HY.out.k2.cell 0
          go_wp2_with fail
          clear n0
          refine (cloneI_any _ xs' _ HUV.out HSl.out).mono ?_
          rintro e V2 ⟨q, rfl, ho, hb⟩
          have HY2 := hid (HY.out.below hb)
          have HO := hid ho
          have hVh : h + 2 ≤ V.heap.size := HY.out.k3.lt
          obtain ⟨qA, qn, qc, rfl⟩ := ho.shape3
          clear ho hb
          have n0 : V2.cell? ⟨h, 0, none⟩ = some (.slice uA un uc) := HY2.out.k2.cell 0
          have nf := HY2.out.k2.frozen 0
          have HY3 := hid (HY2.out.put (.slice qA qn qc))
          have HO3 := hid (own_setX HO.out (by omega) 0 (.slice qA qn qc) : OwnI 3 (V2.setCell ⟨h, 0, none⟩ (.slice qA qn qc)) V.heap.size (.slice qA qn qc) xs')
          go_upto_region 5 with (fail)
          generalize V2.setCell ⟨h, 0, none⟩ (.slice qA qn qc) = V3 at HY3 HO3 ⊢
          clear n0 nf
          have HYd := hid (show DY w V3.drew _ _ _ _ _ _ _ from HY3.out.below (below_drewN (Below.refl _ V3) 1))
          have HOd : Hid (OwnI 3 V3.drew V.heap.size (.slice qA qn qc) xs') := hid (HO3.out.below (below_drewN (Below.refl _ V3) 1))
          have hhh := HY3.out.hh
          have n0 : V3.cell? ⟨h, 0, none⟩ = some (.slice qA qn qc) := HY3.out.k2.cell 0
          have n1 : V3.cell? ⟨h, 1, none⟩ = some (.int .i64 s') := HY3.out.k2.cell 1
          have m0 : V3.cell? ⟨h + 1, 0, none⟩ = some (.string { data := #[] }) := HY3.out.k3.cell 0
          have m1 : V3.cell? ⟨h + 1, 1, none⟩ = some (.iface 269 (.pointer (some a0))) := HY3.out.k3.cell 1
          go_region_with (first | (go_at_call 36; refine (text_what _ (HG.out.later HYd.out.z.bel)).mono ?_; rintro e V4 ⟨rfl, hb⟩; have HY4 := hid (HYd.out.below hb); have HO4 := hid (HOd.out.below hb); have g0 : V4.cell? ⟨h, 0, none⟩ = some (.slice qA qn qc) := HY4.out.k2.cell 0; have g1 : V4.cell? ⟨h, 1, none⟩ = some (.int .i64 s') := HY4.out.k2.cell 1; have q0 : V4.cell? ⟨w.heap.size + 1, 0, none⟩ = some (.slice none 0 0) := HY4.out.z.k1.cell 0; have yq0 := HY4.out.z.k1.frozen 0; have q1 : V4.cell? ⟨w.heap.size + 1, 1, none⟩ = some (.int .i64 0) := HY4.out.z.k1.cell 1; have yq1 := HY4.out.z.k1.frozen 1; clear hb))
          all_goals
            go_wp2
            refine bodyPost_ret (v := .tuple #[.agg #[.slice qA qn qc, .int .i64 s'], .string { data := #[119, 104, 97, 116] }, .bool true]) (by simp [results, Tryz.results10, go_sem, q0, q1]) rfl ⟨_, by rw [HX1.out.2.1, HX1.out.2.2, HOk.out, ← HTe.out]; rfl, ?_, HL.out, ?_⟩
            · rw [HX1.out.1]; exact (own_setX (own_setX HO4.out (by omega) 0 _) (by omega) 1 _).mono (by omega)
            · exact below_put2 HY4.out.z.bel (w.heap.size + 1) (by omega) _ _
      · have HCO := hid hco
        clear hco
        have HOk : Hid (okDL xs n l = false) := hid (by rw [HOkE.out]; rw [HOI.out, HCO.out]; simp)
        have r0 : W1.cell? ⟨w.heap.size + 1, 0, none⟩ = some (.slice none 0 0) := HZ1.out.k1.cell 0
        have yr0 := HZ1.out.k1.frozen 0
        have r1 : W1.cell? ⟨w.heap.size + 1, 1, none⟩ = some (.int .i64 0) := HZ1.out.k1.cell 1
        have yr1 := HZ1.out.k1.frozen 1
        go_wp2
        refine bodyPost_ret (v := .tuple #[.agg #[.slice none 0 0, .int .i64 0], .string { data := #[] }, .bool false]) (by simp [results, Tryz.results10, go_sem, r0, r1]) rfl ⟨_, by rw [(HNo.out HOk.out).2.1, (HNo.out HOk.out).2.2, HOk.out]; rfl, by rw [(HNo.out HOk.out).1]; exact OwnI.nil _ _ _, HL.out, ?_⟩
        exact below_put2 HZ1.out.bel (w.heap.size + 1) (by omega) _ _
    · have h3' : (3000 : Int) < (S.size : Int) := by omega
      have HOk : Hid (okDL xs n l = false) := hid (by rw [HOkE.out]; rw [HOI.out, decide_eq_false h3]; rfl)
      have r0 : W1.cell? ⟨w.heap.size + 1, 0, none⟩ = some (.slice none 0 0) := HZ1.out.k1.cell 0
      have yr0 := HZ1.out.k1.frozen 0
      have r1 : W1.cell? ⟨w.heap.size + 1, 1, none⟩ = some (.int .i64 0) := HZ1.out.k1.cell 1
      have yr1 := HZ1.out.k1.frozen 1
      go_wp2
      refine bodyPost_ret (v := .tuple #[.agg #[.slice none 0 0, .int .i64 0], .string { data := #[] }, .bool false]) (by simp [results, Tryz.results10, go_sem, r0, r1]) rfl ⟨_, by rw [(HNo.out HOk.out).2.1, (HNo.out HOk.out).2.2, HOk.out]; rfl, by rw [(HNo.out HOk.out).1]; exact OwnI.nil _ _ _, HL.out, ?_⟩
      exact below_put2 HZ1.out.bel (w.heap.size + 1) (by omega) _ _
end Go.Proofs.YtbmhaamenjhjfaaGreatDoor
namespace Go.Proofs.YtbmhaamenjhjfaaGreatDoor
open Go.RowKit Go.WideShapes Go.ChangeShapes
set_option linter.unusedVariables false
set_option maxRecDepth 100000 in
set_option maxHeartbeats 1600000 in
theorem specDeskLine_any (v : Value) (xs : List Int) (n : Int) (l : List UInt8) (w : World) (hv : Ints w v xs) (hl : xs.length ≤ 1048576) (hs : l.length ≤ 1048576) :
    Calls Tryz.prog 8 #[.agg #[v, .int .i64 n], .string (sB l)] w fun (r : Ending) w' => ∃ u, r = Ending.returned (.tuple #[.agg #[u, .int .i64 (dlS xs n l)], .string (sB (dlT xs n l)), .bool (okDL xs n l)]) ∧ OwnI 3 w' w.heap.size u (dlX xs n l) ∧ (dlX xs n l).length ≤ 1048576 ∧ Below w.heap.size w w' := by
  have HV := hid hv
  have HL := hid (dlX_len xs n l)
  have HNo := hid (dl_no (xs := xs) (s := n) (l := l))
  have HYes := hid (dl_yes (xs := xs) (s := n) (l := l))
  have HOkE : Hid (okDL xs n l = (okIdeal xs n && (decide (l.length ≤ 3000) && !(l.contains 10)))) := hid rfl
  have hsz := sB_size l
  have HOne := hid (split_one l)
  have HSp := hid (fun W => l1SplitRow_any 10 10 rfl l W hs)
  have HEx := hid (fun hok hlen v W hvW => coStep_any v xs n l W hvW hok hlen)
  obtain ⟨A, c, rfl, -⟩ := hv
  have HZ := hid (CZ.new w (.slice A xs.length c) n)
  obtain ⟨S, hS⟩ : ∃ S, sB l = S := ⟨_, rfl⟩
  rw [hS] at HSp HEx hsz ⊢
  clear hS
  go_enter Tryz.func8, Tryz.ntmps8
  go_wp2_with fail
  generalize ((w.alloc (.cells #[.slice A xs.length c, .int .i64 n] 30)).alloc (.cells #[.slice none 0 0, .int .i64 0] 30)) = W at HZ ⊢
  refine (coGood_any _ xs n _ (HV.out.below HZ.out.bel) hl).mono ?_
  rintro e W1 ⟨rfl, hb⟩
  have HZ1 := hid (HZ.out.below hb)
  clear hb HZ
  cases hoi : okIdeal xs n
  · have HOI := hid hoi
    clear hoi
    have HOk : Hid (okDL xs n l = false) := hid (by rw [HOkE.out]; rw [HOI.out]; rfl)
    have r0 : W1.cell? ⟨w.heap.size + 1, 0, none⟩ = some (.slice none 0 0) := HZ1.out.k1.cell 0
    have yr0 := HZ1.out.k1.frozen 0
    have r1 : W1.cell? ⟨w.heap.size + 1, 1, none⟩ = some (.int .i64 0) := HZ1.out.k1.cell 1
    have yr1 := HZ1.out.k1.frozen 1
    go_wp2
    refine bodyPost_ret (v := .tuple #[.agg #[.slice none 0 0, .int .i64 0], .string { data := #[] }, .bool false]) (by simp [results, Tryz.results8, go_sem, r0, r1]) rfl ⟨_, by rw [(HNo.out HOk.out).2.1, (HNo.out HOk.out).2.2, HOk.out]; rfl, by rw [(HNo.out HOk.out).1]; exact OwnI.nil _ _ _, HL.out, ?_⟩
    exact below_put2 HZ1.out.bel (w.heap.size + 1) (by omega) _ _
  · have HOI := hid hoi
    clear hoi
    by_cases h3 : l.length ≤ 3000
    · have h3' : ¬ (3000 : Int) < (S.size : Int) := by omega
      go_wp2_with fail
      refine (HSp.out _).mono ?_
      rintro e W2 ⟨b, k, cap, hk, rfl, -, -, -, -, hb⟩
      have HZ2 := hid (HZ1.out.below hb)
      clear hb
      rw [← hk] at HOne
      clear hk
      cases hco : l.contains 10
      · have HOk : Hid (okDL xs n l = true) := hid (by rw [HOkE.out, HOI.out, hco, decide_eq_true h3]; rfl)
        have hk1 : ¬ (1 : Int) < (k : Int) := by have := HOne.out; rw [hco] at this; exact of_decide_eq_false this
        clear hco
        have d0 : W2.cell? ⟨w.heap.size, 0, none⟩ = some (.slice A xs.length c) := HZ2.out.k0.cell 0
        have d1 : W2.cell? ⟨w.heap.size, 1, none⟩ = some (.int .i64 n) := HZ2.out.k0.cell 1
        go_wp2_with fail
        clear d0 d1
        refine (HEx.out HOI.out h3 _ _ (HV.out.below HZ2.out.bel)).mono ?_
        rintro e W3 ⟨⟨u, rfl, hu⟩, hb⟩
        have hx1 := HYes.out HOk.out
        have hsl := step_len l HOI.out
        obtain ⟨X, hX⟩ : ∃ X, stepD xs n l = X := ⟨_, rfl⟩
        obtain ⟨xs', s', t, code⟩ := X
        rw [hX] at hu hx1 hsl ⊢
        simp only at hu hx1 hsl ⊢
        have HX1 := hid hx1
        have HSl := hid hsl
        have HZ3 := hid (HZ2.out.below hb)
        have hui : Ints W3 u xs' := by
          rcases hu with ⟨rfl, rfl⟩ | h
          · exact HV.out.below (below_to HZ2.out.bel hb)
          · exact h.ints
        have HU := hid hui
        obtain ⟨uA, uc, rfl, -⟩ := hui
        obtain ⟨un, hun⟩ : ∃ k, xs'.length = k := ⟨_, rfl⟩
        rw [hun] at HU ⊢
        clear hX hx1 hsl hu hb hun
        have HZ4 := hid (HZ3.out.below (below_alloc (Below.refl _ W3) (.cells #[.slice uA un uc, .int .i64 s'] 30)))
        have HK := hid (Blk.new W3 30 #[.slice uA un uc, .int .i64 s'])
        have HUV := hid (HU.out.below (below_alloc (Below.refl _ W3) (.cells #[.slice uA un uc, .int .i64 s'] 30)))
        go_upto_region 4 with (fail)
        generalize W3.alloc (.cells #[.slice uA un uc, .int .i64 s'] 30) = V at HZ4 HK HUV ⊢
        have n0 : V.cell? ⟨W3.heap.size, 0, none⟩ = some (.slice uA un uc) := HK.out.cell 0
        have n1 : V.cell? ⟨W3.heap.size, 1, none⟩ = some (.int .i64 s') := HK.out.cell 1
        go_wp2_with fail
        clear n0 n1
        refine (coOwn_any _ xs' s' _ HUV.out HSl.out).mono ?_
        rintro e V2 ⟨q, rfl, ho, hb⟩
        have HZ5 := hid (HZ4.out.below hb)
        have hVz : w.heap.size + 2 ≤ V.heap.size := HZ4.out.k1.lt
        have HO := hid ho
        obtain ⟨qA, qn, qc, rfl⟩ := ho.shape3
        clear ho hb
        have r0 : V2.cell? ⟨w.heap.size + 1, 0, none⟩ = some (.slice none 0 0) := HZ5.out.k1.cell 0
        have yr0 := HZ5.out.k1.frozen 0
        have r1 : V2.cell? ⟨w.heap.size + 1, 1, none⟩ = some (.int .i64 0) := HZ5.out.k1.cell 1
        have yr1 := HZ5.out.k1.frozen 1
        go_wp2
        refine bodyPost_ret (v := .tuple #[.agg #[.slice qA qn qc, .int .i64 s'], .string (sB t), .bool true]) (by simp [results, Tryz.results8, go_sem, r0, r1]) rfl ⟨_, by rw [HX1.out.2.1, HX1.out.2.2, HOk.out], ?_, HL.out, ?_⟩
        · rw [HX1.out.1]; exact (own_setX (own_setX HO.out (by omega) 0 _) (by omega) 1 _).mono (by omega)
        · exact below_put2 HZ5.out.bel (w.heap.size + 1) (by omega) _ _
      · have HCO := hid hco
        have hk1 : (1 : Int) < (k : Int) := by have := HOne.out; rw [hco] at this; exact of_decide_eq_true this
        clear hco
        have HOk : Hid (okDL xs n l = false) := hid (by rw [HOkE.out]; rw [HOI.out, HCO.out]; simp)
        have r0 : W2.cell? ⟨w.heap.size + 1, 0, none⟩ = some (.slice none 0 0) := HZ2.out.k1.cell 0
        have yr0 := HZ2.out.k1.frozen 0
        have r1 : W2.cell? ⟨w.heap.size + 1, 1, none⟩ = some (.int .i64 0) := HZ2.out.k1.cell 1
        have yr1 := HZ2.out.k1.frozen 1
        go_wp2
        refine bodyPost_ret (v := .tuple #[.agg #[.slice none 0 0, .int .i64 0], .string { data := #[] }, .bool false]) (by simp [results, Tryz.results8, go_sem, r0, r1]) rfl ⟨_, by rw [(HNo.out HOk.out).2.1, (HNo.out HOk.out).2.2, HOk.out]; rfl, by rw [(HNo.out HOk.out).1]; exact OwnI.nil _ _ _, HL.out, ?_⟩
        exact below_put2 HZ2.out.bel (w.heap.size + 1) (by omega) _ _
    · have h3' : (3000 : Int) < (S.size : Int) := by omega
      have HOk : Hid (okDL xs n l = false) := hid (by rw [HOkE.out]; rw [HOI.out, decide_eq_false h3]; rfl)
      have r0 : W1.cell? ⟨w.heap.size + 1, 0, none⟩ = some (.slice none 0 0) := HZ1.out.k1.cell 0
      have yr0 := HZ1.out.k1.frozen 0
      have r1 : W1.cell? ⟨w.heap.size + 1, 1, none⟩ = some (.int .i64 0) := HZ1.out.k1.cell 1
      have yr1 := HZ1.out.k1.frozen 1
      go_wp2
      refine bodyPost_ret (v := .tuple #[.agg #[.slice none 0 0, .int .i64 0], .string { data := #[] }, .bool false]) (by simp [results, Tryz.results8, go_sem, r0, r1]) rfl ⟨_, by rw [(HNo.out HOk.out).2.1, (HNo.out HOk.out).2.2, HOk.out]; rfl, by rw [(HNo.out HOk.out).1]; exact OwnI.nil _ _ _, HL.out, ?_⟩
      exact below_put2 HZ1.out.bel (w.heap.size + 1) (by omega) _ _
end Go.Proofs.YtbmhaamenjhjfaaGreatDoor
