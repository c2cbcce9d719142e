/- DskS GlobD -/
import Derived.Test.YtbmhaamenjhjfaaGreatDoorRows
import Derived.LaidSub
import Derived.Stop.LaidTwo
import Derived.Lib.LaidTab
import Derived.ChangeVars
import Derived.OpenShut
import Derived.Shelf.Vars
import Derived.LaidMore
import Derived.Lay
import Derived.LaidLaws
import Derived.RowKitTokens
import Derived.Test.YtbmhaamenjhjfaaGreatDoorPkD32
import Derived.Test.YtbmhaamenjhjfaaGreatDoorPkD34
namespace Go.Proofs.YtbmhaamenjhjfaaGreatDoor
open Go.RowKit Go.WideShapes Go.ChangeShapes
set_option linter.unusedVariables false
theorem moved_at (g : Nat) (v tv nv : Value) (xs : List Int) (s : Int) (w : World) (hb : Blk w g 79 #[v, .int .i64 s, tv, nv]) (hv : Ints w v xs) (hid0 : okIdeal xs s = true) (c : Nat) (ns p : List Int) (hnb : ∀ x ∈ ns, 0 ≤ x ∧ x ≤ 999999) (hn : Ints w nv ns) (htv : ∃ A n c, tv = .slice A n c) (hp : c = 1 → Ints w tv p ∧ ∀ k, tv.ownBlock = some k → k ≠ g) (hns : c ≠ 1 → ns.length = (ksD c).length) (hgd : c = 1 → good p = true) (hnv : ∀ k, nv.ownBlock = some k → k ≠ g) (h1 : 1 ≤ c) (h12 : c ≤ 12) :
    Calls Tryz.prog 47 #[.pointer (some ⟨g, 0, none⟩), .string (sB (nmD c))] w fun (r : Ending) w' => ResM c ns p xs s w.heap.size g v tv nv r w' ∧ TurnedIn g (g + 1) w w' := by
  rcases (show c = 1 ∨ c = 2 ∨ c = 3 ∨ c = 4 ∨ c = 5 ∨ c = 6 ∨ c = 7 ∨ c = 8 ∨ c = 9 ∨ c = 10 ∨ c = 11 ∨ c = 12 from by omega) with rfl | rfl | rfl | rfl | rfl | rfl | rfl | rfl | rfl | rfl | rfl | rfl
  · exact moved_1 g v tv nv xs s _ w hb hv hid0 (name_at _ rfl (by decide)) ns p hnb hn htv (hp rfl).1 (hgd rfl) (hp rfl).2
  · cases hok : sides (ns.getD 0 0) (ns.getD 1 0)
    · exact moved_2_no g v tv nv xs s _ w hb hv hid0 (name_at _ rfl (by decide)) ns p hnb hn htv (hns (by decide)) hok
    · exact moved_2_yes g v tv nv xs s _ w hb hv hid0 (name_at _ rfl (by decide)) ns p hnb hn htv (hns (by decide)) hok
  · cases hok : (decide (1 ≤ ns.getD 0 0) && decide (ns.getD 0 0 ≤ 4))
    · exact moved_3_no g v tv nv xs s _ w hb hv hid0 (name_at _ rfl (by decide)) ns p hnb hn htv (hns (by decide)) hok
    · exact moved_3_yes g v tv nv xs s _ w hb hv hid0 (name_at _ rfl (by decide)) ns p hnb hn htv (hns (by decide)) hok
  · cases hok : (decide (1 ≤ ns.getD 0 0) && decide (ns.getD 0 0 ≤ 10))
    · exact moved_4_no g v tv nv xs s _ w hb hv hid0 (name_at _ rfl (by decide)) ns p hnb hn htv (hns (by decide)) hok
    · exact moved_4_yes g v tv nv xs s _ w hb hv hid0 (name_at _ rfl (by decide)) ns p hnb hn htv (hns (by decide)) hok
  · exact moved_5 g v tv nv xs s _ w hb hv hid0 (name_at _ rfl (by decide)) ns p hnb hn htv
  · cases hst : (decide ((0 : Int) ≤ ns.getD 0 0) && decide (ns.getD 0 0 ≤ ((2 ^ xs.length - 1 : Nat) : Int)))
    · have hok : okIdeal xs (ns.getD 0 0) = false := by
        cases hk : okIdeal xs (ns.getD 0 0) with
        | false => rfl
        | true =>
          obtain ⟨y, hy, -, hy2, -⟩ := okIdeal_all hk
          rw [hy] at hst
          have : (decide ((0 : Int) ≤ (y : Int)) && decide ((y : Int) ≤ ((2 ^ xs.length - 1 : Nat) : Int))) = true := by
            rw [Bool.and_eq_true, decide_eq_true_eq, decide_eq_true_eq]; omega
          rw [this] at hst; cases hst
      exact moved_6_no1 g v tv nv xs s _ w hb hv hid0 (name_at _ rfl (by decide)) ns p hnb hn htv (hns (by decide)) hok hst hnv
    · have hgx : good xs = true := by obtain ⟨z, -, h, -, -⟩ := okIdeal_all hid0; exact h
      have hst' := hst
      simp only [Bool.and_eq_true, decide_eq_true_eq] at hst'
      obtain ⟨y, hy⟩ := Int.eq_ofNat_of_zero_le hst'.1
      have hpos := Nat.two_pow_pos xs.length
      have hy2 : y < 2 ^ xs.length := by have := hst'.2; rw [hy] at this; omega
      have hoki : okIdeal xs (ns.getD 0 0) = holdsIdeal xs (ns.getD 0 0).toNat := by
        rw [hy, Int.toNat_natCast, okIdeal, okSet_nat hgx hy2, Int.toNat_natCast]; rfl
      cases hh : holdsIdeal xs (ns.getD 0 0).toNat
      · exact moved_6_no2 g v tv nv xs s _ w hb hv hid0 (name_at _ rfl (by decide)) ns p hnb hn htv (hns (by decide)) (by rw [hoki, hh]) hst hh hnv
      · exact moved_6_yes g v tv nv xs s _ w hb hv hid0 (name_at _ rfl (by decide)) ns p hnb hn htv (hns (by decide)) (by rw [hoki, hh]) hst hh hnv
  · cases hok : okTW xs [ns.getD 0 0] s
    · exact moved_7_no g v tv nv xs s _ w hb hv hid0 (name_at _ rfl (by decide)) ns p hnb hn htv (hns (by decide)) hok
    · exact moved_7_yes g v tv nv xs s _ w hb hv hid0 (name_at _ rfl (by decide)) ns p hnb hn htv (hns (by decide)) hok
  · exact moved_8 g v tv nv xs s _ w hb hv hid0 (name_at _ rfl (by decide)) ns p hnb hn htv
  · exact moved_9 g v tv nv xs s _ w hb hv hid0 (name_at _ rfl (by decide)) ns p hnb hn htv
  · cases hok : okRT xs s (ns.getD 0 0)
    · exact moved_10_no g v tv nv xs s _ w hb hv hid0 (name_at _ rfl (by decide)) ns p hnb hn htv (hns (by decide)) hok
    · exact moved_10_yes g v tv nv xs s _ w hb hv hid0 (name_at _ rfl (by decide)) ns p hnb hn htv (hns (by decide)) hok
  · cases hok : okRI xs s
    · exact moved_11_no g v tv nv xs s _ w hb hv hid0 (name_at _ rfl (by decide)) ns p hnb hn htv hok
    · exact moved_11_yes g v tv nv xs s _ w hb hv hid0 (name_at _ rfl (by decide)) ns p hnb hn htv hok
  · cases hok : okRI xs s
    · exact moved_12_no g v tv nv xs s _ w hb hv hid0 (name_at _ rfl (by decide)) ns p hnb hn htv hok
    · exact moved_12_yes g v tv nv xs s _ w hb hv hid0 (name_at _ rfl (by decide)) ns p hnb hn htv hok
theorem asked_at (g : Nat) (v tv nv : Value) (xs : List Int) (s : Int) (w : World) (hb : Blk w g 79 #[v, .int .i64 s, tv, nv]) (hv : Ints w v xs) (hid0 : okIdeal xs s = true) (c : Nat) (ns p : List Int) (h13 : 13 ≤ c) (h21 : c ≤ 21) :
    Calls Tryz.prog 48 #[.pointer (some ⟨g, 0, none⟩), .string (sB (nmD c))] w fun (r : Ending) w' => (∃ t, actD c ns p xs s = some (xs, s, t) ∧ r = .returned (.string (sB t))) ∧ Below w.heap.size w w' := by
  rcases (show c = 13 ∨ c = 14 ∨ c = 15 ∨ c = 16 ∨ c = 17 ∨ c = 18 ∨ c = 19 ∨ c = 20 ∨ c = 21 from by omega) with rfl | rfl | rfl | rfl | rfl | rfl | rfl | rfl | rfl
  · exact asked_13 g v tv nv xs s _ w hb hv hid0 (name_at _ rfl (by decide)) ns p
  · exact asked_14 g v tv nv xs s _ w hb hv hid0 (name_at _ rfl (by decide)) ns p
  · exact asked_15 g v tv nv xs s _ w hb hv hid0 (name_at _ rfl (by decide)) ns p
  · exact asked_16 g v tv nv xs s _ w hb hv hid0 (name_at _ rfl (by decide)) ns p
  · exact asked_17 g v tv nv xs s _ w hb hv hid0 (name_at _ rfl (by decide)) ns p
  · exact asked_18 g v tv nv xs s _ w hb hv hid0 (name_at _ rfl (by decide)) ns p
  · exact asked_19 g v tv nv xs s _ w hb hv hid0 (name_at _ rfl (by decide)) ns p
  · exact asked_20 g v tv nv xs s _ w hb hv hid0 (name_at _ rfl (by decide)) ns p
  · exact asked_21 g v tv nv xs s _ w hb hv hid0 (name_at _ rfl (by decide)) ns p
structure CS (w W : World) (dv : Value) (s : Int) (h : Nat) (d0 d1 tv nv : Value) : Prop where
  k0 : Blk W w.heap.size 30 #[dv, .int .i64 s]
  k1 : Blk W (w.heap.size + 1) 30 #[.slice none 0 0, .int .i64 0]
  k2 : Blk W h 79 #[d0, d1, tv, nv]
  hh : w.heap.size + 2 ≤ h
  bel : Below w.heap.size w W
theorem CS.below {w W W' : World} {dv : Value} {s : Int} {h : Nat} {d0 d1 tv nv : Value} (H : CS w W dv s h d0 d1 tv nv) (hb : Below W.heap.size W W') : CS w W' dv s h d0 d1 tv nv :=
  ⟨H.k0.below hb H.k0.lt, H.k1.below hb H.k1.lt, H.k2.below hb H.k2.lt, H.hh, below_to H.bel hb⟩
theorem CS.line {w W W' : World} {dv : Value} {s : Int} {h : Nat} {d0 d1 tv nv e0 e1 : Value} (H : CS w W dv s h d0 d1 tv nv) (ht : TurnedIn h (h + 1) W W') (hk : Blk W' h 79 #[e0, e1, tv, nv]) : CS w W' dv s h e0 e1 tv nv := by
  have := H.hh
  exact ⟨H.k0.turnedG ht (by omega), H.k1.turnedG ht (by omega), hk, H.hh, below_turned H.bel ht (by omega)⟩
structure CZ (w W : World) (dv : Value) (s : Int) : Prop where
  k0 : Blk W w.heap.size 30 #[dv, .int .i64 s]
  k1 : Blk W (w.heap.size + 1) 30 #[.slice none 0 0, .int .i64 0]
  bel : Below w.heap.size w W
theorem CZ.below {w W W' : World} {dv : Value} {s : Int} (H : CZ w W dv s) (hb : Below W.heap.size W W') : CZ w W' dv s := ⟨H.k0.below hb H.k0.lt, H.k1.below hb H.k1.lt, below_to H.bel hb⟩
theorem CZ.new (w : World) (dv : Value) (s : Int) : CZ w ((w.alloc (.cells #[dv, .int .i64 s] 30)).alloc (.cells #[.slice none 0 0, .int .i64 0] 30)) dv s :=
  ⟨(Blk.new w _ _).alloc _, Blk.newAt _ _ _ _ (by simp), below_alloc (below_alloc (Below.refl _ _) _) _⟩
theorem CZ.line {w W : World} {dv : Value} {s : Int} (H : CZ w W dv s) (tv nv : Value) : CS w (W.alloc (.cells #[dv, .int .i64 s, tv, nv] 79)) dv s W.heap.size dv (.int .i64 s) tv nv :=
  ⟨H.k0.alloc _, H.k1.alloc _, Blk.new W _ _, H.k1.lt, below_alloc H.bel _⟩
theorem nm_ne {a b : Nat} (ha : a < 22) (hb : b < 22) (h : a ≠ b) : nmD a ≠ nmD b := fun e => h (by have := nmD_inj ⟨a, ha⟩ ⟨b, hb⟩ e; simpa using this)
set_option maxRecDepth 100000 in
set_option maxHeartbeats 1600000 in
theorem coStep_none (v : Value) (xs : List Int) (s : Int) (l : List UInt8) (w : World) (hv : Ints w v xs) (hid0 : okIdeal xs s = true) (hlen : l.length ≤ 3000) (hq : lnD l = none) :
    Calls Tryz.prog 29 #[.agg #[v, .int .i64 s], .string (sB l)] w fun (r : Ending) w' => (∃ u, r = .returned (.tuple #[.agg #[u, .int .i64 (stepD xs s l).2.1], .string (sB (stepD xs s l).2.2.1)]) ∧ ((u = v ∧ (stepD xs s l).1 = xs) ∨ OwnI 3 w' w.heap.size u (stepD xs s l).1)) ∧ Below w.heap.size w w' := by
  have HST : Hid (stepD xs s l = (xs, s, [119, 104, 97, 116], 2)) := hid (stepD_not hq)
  have HQ := hid hq
  clear hq
  have HV := hid hv
  have HI := hid hid0
  obtain ⟨A, c0, rfl, -⟩ := hv
  have HZ := hid (CZ.new w (.slice A xs.length c0) s)
  clear hid0
  go_enter Tryz.func29, Tryz.ntmps29
  go_wp2_with fail
  generalize ((w.alloc (.cells #[.slice A xs.length c0, .int .i64 s] 30)).alloc (.cells #[.slice none 0 0, .int .i64 0] 30)) = W at HZ ⊢
  have hzW : w.heap.size + 2 ≤ W.heap.size := HZ.out.k1.lt
  refine (coRead_any _ xs s l _ (HV.out.below HZ.out.bel) hlen).mono ?_
  rintro e W1 ⟨hr, hb1⟩
  have HZ1 := hid (HZ.out.below hb1)
  have hz1 := hb1.size
  clear hb1 HZ
  rcases hr with ⟨hln, tA, tn, tc, nA, nn, nc, rfl⟩ | ⟨c', ns', p', tA, tn, tc, nA, nn, nc, hln, rfl, hn, hp⟩
  · have HS := hid (HZ1.out.line (.slice tA tn tc) (.slice nA nn nc))
    clear hln
    go_upto_region 3 with (fail)
    generalize W1.alloc (.cells #[.slice A xs.length c0, .int .i64 s, .slice tA tn tc, .slice nA nn nc] 79) = V at HS ⊢
    have d0 : V.cell? ⟨w.heap.size, 0, none⟩ = some (.slice A xs.length c0) := HS.out.k0.cell 0
    have d1 : V.cell? ⟨w.heap.size, 1, none⟩ = some (.int .i64 s) := HS.out.k0.cell 1
    have r0 : V.cell? ⟨w.heap.size + 1, 0, none⟩ = some (.slice none 0 0) := HS.out.k1.cell 0
    have y0 := HS.out.k1.frozen 0
    have r1 : V.cell? ⟨w.heap.size + 1, 1, none⟩ = some (.int .i64 0) := HS.out.k1.cell 1
    have y1 := HS.out.k1.frozen 1
    go_wp2
    refine bodyPost_ret (v := .tuple #[.agg #[.slice A xs.length c0, .int .i64 s], .string { data := #[119, 104, 97, 116] }]) (by simp [results, Tryz.results29, go_sem, r0, r1]) rfl ⟨⟨_, by rw [HST.out]; rfl, .inl ⟨rfl, by rw [HST.out]⟩⟩, ?_⟩
    exact below_put2 HS.out.bel (w.heap.size + 1) (by omega) _ _
  · rw [HQ.out] at hln; cases hln
set_option maxRecDepth 100000 in
set_option maxHeartbeats 1600000 in
theorem coStep_mv (v : Value) (xs : List Int) (s : Int) (l : List UInt8) (w : World) (hv : Ints w v xs) (hid0 : okIdeal xs s = true) (hlen : l.length ≤ 3000) {c : Nat} {ns p : List Int} (hq : lnD l = some (c, ns, p)) (hc1 : 1 ≤ c) (hc12 : c ≤ 12) :
    Calls Tryz.prog 29 #[.agg #[v, .int .i64 s], .string (sB l)] w fun (r : Ending) w' => (∃ u, r = .returned (.tuple #[.agg #[u, .int .i64 (stepD xs s l).2.1], .string (sB (stepD xs s l).2.2.1)]) ∧ ((u = v ∧ (stepD xs s l).1 = xs) ∨ OwnI 3 w' w.heap.size u (stepD xs s l).1)) ∧ Below w.heap.size w w' := by
  have HQ := hid hq
  have HC1 := hid hc1
  have HC12 := hid hc12
  clear hq hc1 hc12
  have HV := hid hv
  have HI := hid hid0
  obtain ⟨A, c0, rfl, -⟩ := hv
  have HZ := hid (CZ.new w (.slice A xs.length c0) s)
  clear hid0
  go_enter Tryz.func29, Tryz.ntmps29
  go_wp2_with fail
  generalize ((w.alloc (.cells #[.slice A xs.length c0, .int .i64 s] 30)).alloc (.cells #[.slice none 0 0, .int .i64 0] 30)) = W at HZ ⊢
  have hzW : w.heap.size + 2 ≤ W.heap.size := HZ.out.k1.lt
  refine (coRead_any _ xs s l _ (HV.out.below HZ.out.bel) hlen).mono ?_
  rintro e W1 ⟨hr, hb1⟩
  have HZ1 := hid (HZ.out.below hb1)
  have hz1 := hb1.size
  clear hb1 HZ
  rcases hr with ⟨hln, tA, tn, tc, nA, nn, nc, rfl⟩ | ⟨c', ns', p', tA, tn, tc, nA, nn, nc, hln, rfl, hn, hp⟩
  · rw [HQ.out] at hln; cases hln
  have hq0 := HQ.out
  rw [hln] at hq0
  simp only [Option.some.injEq, Prod.mk.injEq] at hq0
  obtain ⟨h1, h2, h3⟩ := hq0
  subst h1 h2 h3
  have HFt := hid (rdD_fits (show rdD (w0D l) (tsD l) = some (c', ns', p') from hln))
  have HN := hid hn
  have HP := hid hp
  have HTb := hid (fun k hk => (OwnI.blockLt hp k hk))
  have HNb := hid (fun k hk => (OwnI.blockLt hn k hk))
  have HS := hid (HZ1.out.line (.slice tA tn tc) (.slice nA nn nc))
  have hhz : W1.heap.size < (W1.alloc (.cells #[.slice A xs.length c0, .int .i64 s, .slice tA tn tc, .slice nA nn nc] 79)).heap.size := by simp
  have HAl := hid (below_alloc (Below.refl _ W1) (.cells #[.slice A xs.length c0, .int .i64 s, .slice tA tn tc, .slice nA nn nc] 79))
  have HQ2 := HQ
  clear hln hn hp HQ
  go_upto_region 4 with (fail)
  obtain ⟨h, hh⟩ : ∃ h, W1.heap.size = h := ⟨_, rfl⟩
  rw [hh] at HS HTb HNb hhz
  have HHe := hid hh
  generalize W1.alloc (.cells #[.slice A xs.length c0, .int .i64 s, .slice tA tn tc, .slice nA nn nc] 79) = V at HS hhz HAl ⊢
  try rw [hh]
  clear hh
  have HMv := hid (fun W (hk : Blk W h _ _) hv hn htv hp hne => moved_at h (.slice A xs.length c0) (.slice tA tn tc) (.slice nA nn nc) xs s W hk hv HI.out c' ns' p' HFt.out.2.2.2.1 hn htv hp HFt.out.2.2.2.2.1 HFt.out.2.2.2.2.2 hne HC1.out HC12.out)
  obtain ⟨F, hFe⟩ : ∃ F, sB (nmD c') = F := ⟨_, rfl⟩
  rw [hFe] at HMv ⊢
  have hF : F.toList = nmD c' := by rw [← hFe, sB_toList]
  have hcc1 := HC1.out
  have hcc2 := HC12.out
  clear hFe
  obtain ⟨k, hk⟩ : ∃ k, c' = k := ⟨_, rfl⟩
  have hks : k = 1 ∨ k = 2 ∨ k = 3 ∨ k = 4 ∨ k = 5 ∨ k = 6 ∨ k = 7 ∨ k = 8 ∨ k = 9 ∨ k = 10 ∨ k = 11 ∨ k = 12 := by omega
  rw [hk] at hF
  clear hk hcc1 hcc2
  rcases hks with rfl | rfl | rfl | rfl | rfl | rfl | rfl | rfl | rfl | rfl | rfl | rfl
  all_goals
    simp only [nmD] at hF
    go_wp2_with fail
    clear hF
    refine (HMv.out _ HS.out.k2 (HV.out.below HS.out.bel) (HN.out.below HAl.out).ints ⟨_, _, _, rfl⟩ (fun _ => ⟨(HP.out.below HAl.out).ints, fun k hk => by have := (HTb.out k hk).2; omega⟩) (fun k hk => by have := (HNb.out k hk).2; omega)).mono ?_
    rintro e V2 ⟨hr, ht⟩
    rcases hr with ⟨ha, rfl, hk⟩ | ⟨xs', s', t, u, ha, rfl, hk, hu⟩
    · have HST : Hid (stepD xs s l = (xs, s, [110, 111], 1)) := hid (stepD_no (l := l) HQ2.out ha)
      have HS2 := hid (HS.out.line ht hk)
      clear ha ht hk
      have l0 := HS2.out.k2.cell 0
      have l1 := HS2.out.k2.cell 1
      have r0 : V2.cell? ⟨w.heap.size + 1, 0, none⟩ = some (.slice none 0 0) := HS2.out.k1.cell 0
      have y0 := HS2.out.k1.frozen 0
      have r1 : V2.cell? ⟨w.heap.size + 1, 1, none⟩ = some (.int .i64 0) := HS2.out.k1.cell 1
      have y1 := HS2.out.k1.frozen 1
      go_wp2
      refine bodyPost_ret (v := .tuple #[.agg #[.slice A xs.length c0, .int .i64 s], .string { data := #[110, 111] }]) (by simp [results, Tryz.results29, go_sem, r0, r1]) rfl ⟨⟨_, by rw [HST.out]; rfl, .inl ⟨rfl, by rw [HST.out]⟩⟩, ?_⟩
      exact below_put2 HS2.out.bel (w.heap.size + 1) (by omega) _ _
    · have HST : Hid (stepD xs s l = (xs', s', t, 0)) := hid (stepD_yes (l := l) HQ2.out ha)
      have HS2 := hid (HS.out.line ht hk)
      have hzz : w.heap.size + 2 ≤ V.heap.size := by have := HS.out.hh; omega
      have hu2 : (u = .slice A xs.length c0 ∧ xs' = xs) ∨ OwnI 3 V2 (w.heap.size + 2) u xs' := by
        rcases hu with h1 | ⟨-, rfl, rfl⟩ | h1
        · exact .inl h1
        · refine .inr (((HP.out.below HAl.out).turned ht (fun k hk => ⟨(HTb.out k hk).1, (HTb.out k hk).2⟩) (Or.inl (Nat.le_refl _))).mono hzW)
        · exact .inr (h1.mono hzz)
      have hsh : ∃ A n c, u = .slice A n c := by
        rcases hu2 with ⟨rfl, -⟩ | h1
        · exact ⟨_, _, _, rfl⟩
        · exact h1.shape3
      have HU := hid hu2
      obtain ⟨uA, un, uc, rfl⟩ := hsh
      clear ha ht hk hu hu2
      have l0 := HS2.out.k2.cell 0
      have l1 := HS2.out.k2.cell 1
      have r0 : V2.cell? ⟨w.heap.size + 1, 0, none⟩ = some (.slice none 0 0) := HS2.out.k1.cell 0
      have y0 := HS2.out.k1.frozen 0
      have r1 : V2.cell? ⟨w.heap.size + 1, 1, none⟩ = some (.int .i64 0) := HS2.out.k1.cell 1
      have y1 := HS2.out.k1.frozen 1
      go_wp2
      refine bodyPost_ret (v := .tuple #[.agg #[.slice uA un uc, .int .i64 s'], .string (sB t)]) (by simp [results, Tryz.results29, go_sem, r0, r1]) rfl ⟨⟨_, by rw [HST.out], ?_⟩, ?_⟩
      · rw [HST.out]
        rcases HU.out with h1 | h1
        · exact .inl h1
        · exact .inr ((own_setX (own_setX h1 (by omega) 0 _) (by omega) 1 _).mono (by omega))
      · exact below_put2 HS2.out.bel (w.heap.size + 1) (by omega) _ _
set_option maxRecDepth 100000 in
set_option maxHeartbeats 1600000 in
theorem coStep_as (v : Value) (xs : List Int) (s : Int) (l : List UInt8) (w : World) (hv : Ints w v xs) (hid0 : okIdeal xs s = true) (hlen : l.length ≤ 3000) {c : Nat} {ns p : List Int} (hq : lnD l = some (c, ns, p)) (h13 : 13 ≤ c) :
    Calls Tryz.prog 29 #[.agg #[v, .int .i64 s], .string (sB l)] w fun (r : Ending) w' => (∃ u, r = .returned (.tuple #[.agg #[u, .int .i64 (stepD xs s l).2.1], .string (sB (stepD xs s l).2.2.1)]) ∧ ((u = v ∧ (stepD xs s l).1 = xs) ∨ OwnI 3 w' w.heap.size u (stepD xs s l).1)) ∧ Below w.heap.size w w' := by
  have HQ := hid hq
  have HC := hid h13
  clear hq h13
  have HV := hid hv
  have HI := hid hid0
  obtain ⟨A, c0, rfl, -⟩ := hv
  have HZ := hid (CZ.new w (.slice A xs.length c0) s)
  clear hid0
  go_enter Tryz.func29, Tryz.ntmps29
  go_wp2_with fail
  generalize ((w.alloc (.cells #[.slice A xs.length c0, .int .i64 s] 30)).alloc (.cells #[.slice none 0 0, .int .i64 0] 30)) = W at HZ ⊢
  have hzW : w.heap.size + 2 ≤ W.heap.size := HZ.out.k1.lt
  refine (coRead_any _ xs s l _ (HV.out.below HZ.out.bel) hlen).mono ?_
  rintro e W1 ⟨hr, hb1⟩
  have HZ1 := hid (HZ.out.below hb1)
  have hz1 := hb1.size
  clear hb1 HZ
  rcases hr with ⟨hln, tA, tn, tc, nA, nn, nc, rfl⟩ | ⟨c', ns', p', tA, tn, tc, nA, nn, nc, hln, rfl, hn, hp⟩
  · rw [HQ.out] at hln; cases hln
  have hq0 := HQ.out
  rw [hln] at hq0
  simp only [Option.some.injEq, Prod.mk.injEq] at hq0
  obtain ⟨h1, h2, h3⟩ := hq0
  subst h1 h2 h3
  have HFt := hid (rdD_fits (show rdD (w0D l) (tsD l) = some (c', ns', p') from hln))
  have HN := hid hn
  have HP := hid hp
  have HTb := hid (fun k hk => (OwnI.blockLt hp k hk))
  have HNb := hid (fun k hk => (OwnI.blockLt hn k hk))
  have HS := hid (HZ1.out.line (.slice tA tn tc) (.slice nA nn nc))
  have hhz : W1.heap.size < (W1.alloc (.cells #[.slice A xs.length c0, .int .i64 s, .slice tA tn tc, .slice nA nn nc] 79)).heap.size := by simp
  have HAl := hid (below_alloc (Below.refl _ W1) (.cells #[.slice A xs.length c0, .int .i64 s, .slice tA tn tc, .slice nA nn nc] 79))
  have HQ2 := HQ
  clear hln hn hp HQ
  go_upto_region 4 with (fail)
  obtain ⟨h, hh⟩ : ∃ h, W1.heap.size = h := ⟨_, rfl⟩
  rw [hh] at HS HTb HNb hhz
  have HHe := hid hh
  generalize W1.alloc (.cells #[.slice A xs.length c0, .int .i64 s, .slice tA tn tc, .slice nA nn nc] 79) = V at HS hhz HAl ⊢
  try rw [hh]
  clear hh
  have n1 : ((sB (nmD c')).toList == [112, 111, 115, 101, 116]) = false := name_not (c := 1) (nm_ne (b := 1) (by have := HFt.out.2.1; omega) (by decide) (by have := HC.out; omega)) (by decide)
  have n2 : ((sB (nmD c')).toList == [114, 101, 99, 116, 97, 110, 103, 108, 101]) = false := name_not (c := 2) (nm_ne (b := 2) (by have := HFt.out.2.1; omega) (by decide) (by have := HC.out; omega)) (by decide)
  have n3 : ((sB (nmD c')).toList == [115, 116, 97, 105, 114, 115]) = false := name_not (c := 3) (nm_ne (b := 3) (by have := HFt.out.2.1; omega) (by decide) (by have := HC.out; omega)) (by decide)
  have n4 : ((sB (nmD c')).toList == [102, 101, 110, 99, 101]) = false := name_not (c := 4) (nm_ne (b := 4) (by have := HFt.out.2.1; omega) (by decide) (by have := HC.out; omega)) (by decide)
  have n5 : ((sB (nmD c')).toList == [100, 117, 97, 108]) = false := name_not (c := 5) (nm_ne (b := 5) (by have := HFt.out.2.1; omega) (by decide) (by have := HC.out; omega)) (by decide)
  have n6 : ((sB (nmD c')).toList == [116, 97, 107, 101]) = false := name_not (c := 6) (nm_ne (b := 6) (by have := HFt.out.2.1; omega) (by decide) (by have := HC.out; omega)) (by decide)
  have n7 : ((sB (nmD c')).toList == [116, 111, 103, 103, 108, 101]) = false := name_not (c := 7) (nm_ne (b := 7) (by have := HFt.out.2.1; omega) (by decide) (by have := HC.out; omega)) (by decide)
  have n8 : ((sB (nmD c')).toList == [114, 111, 119]) = false := name_not (c := 8) (nm_ne (b := 8) (by have := HFt.out.2.1; omega) (by decide) (by have := HC.out; omega)) (by decide)
  have n9 : ((sB (nmD c')).toList == [98, 97, 99, 107]) = false := name_not (c := 9) (nm_ne (b := 9) (by have := HFt.out.2.1; omega) (by decide) (by have := HC.out; omega)) (by decide)
  have n10 : ((sB (nmD c')).toList == [116, 105, 109, 101, 115]) = false := name_not (c := 10) (nm_ne (b := 10) (by have := HFt.out.2.1; omega) (by decide) (by have := HC.out; omega)) (by decide)
  have n11 : ((sB (nmD c')).toList == [118, 97, 99, 117, 97, 116, 101]) = false := name_not (c := 11) (nm_ne (b := 11) (by have := HFt.out.2.1; omega) (by decide) (by have := HC.out; omega)) (by decide)
  have n12 : ((sB (nmD c')).toList == [103, 121, 114, 97, 116, 101]) = false := name_not (c := 12) (nm_ne (b := 12) (by have := HFt.out.2.1; omega) (by decide) (by have := HC.out; omega)) (by decide)
  go_upto_region 19 with (fail)
  clear n1 n2 n3 n4 n5 n6 n7 n8 n9 n10 n11 n12
  have HSd := hid (show CS w V.drew _ _ _ _ _ _ _ from HS.out.below (below_drewN (Below.refl _ V) 1))
  have d0 : V.cell? ⟨w.heap.size, 0, none⟩ = some (.slice A xs.length c0) := HS.out.k0.cell 0
  have d1 : V.cell? ⟨w.heap.size, 1, none⟩ = some (.int .i64 s) := HS.out.k0.cell 1
  have r0 : V.cell? ⟨w.heap.size + 1, 0, none⟩ = some (.slice none 0 0) := HS.out.k1.cell 0
  have y0 := HS.out.k1.frozen 0
  have r1 : V.cell? ⟨w.heap.size + 1, 1, none⟩ = some (.int .i64 0) := HS.out.k1.cell 1
  have y1 := HS.out.k1.frozen 1
  go_region_with (first | (go_at_call 48; refine (asked_at h _ _ _ xs s _ HSd.out.k2 (HV.out.below HSd.out.bel) HI.out c' ns' p' HC.out (by have := HFt.out.2.1; omega)).mono ?_; rintro e V2 ⟨⟨t, ha, rfl⟩, hb⟩; have HAc := hid ha; have HS2 := hid (HSd.out.below hb); have g0 : V2.cell? ⟨w.heap.size, 0, none⟩ = some (.slice A xs.length c0) := HS2.out.k0.cell 0; have g1 : V2.cell? ⟨w.heap.size, 1, none⟩ = some (.int .i64 s) := HS2.out.k0.cell 1; have q0 : V2.cell? ⟨w.heap.size + 1, 0, none⟩ = some (.slice none 0 0) := HS2.out.k1.cell 0; have q1 : V2.cell? ⟨w.heap.size + 1, 1, none⟩ = some (.int .i64 0) := HS2.out.k1.cell 1; have z0 := HS2.out.k1.frozen 0; have z1 := HS2.out.k1.frozen 1; clear hb ha))
  all_goals
    have HST : Hid (stepD xs s l = (xs, s, t, 0)) := hid (stepD_yes (l := l) HQ2.out HAc.out)
    go_wp2
    refine bodyPost_ret (v := .tuple #[.agg #[.slice A xs.length c0, .int .i64 s], .string (sB t)]) (by simp [results, Tryz.results29, go_sem, q0, q1]) rfl ⟨⟨_, by rw [HST.out], .inl ⟨rfl, by rw [HST.out]⟩⟩, ?_⟩
    exact below_put2 HS2.out.bel (w.heap.size + 1) (by omega) _ _
set_option maxRecDepth 100000 in
set_option maxHeartbeats 1600000 in
theorem coStep_any (v : Value) (xs : List Int) (s : Int) (l : List UInt8) (w : World) (hv : Ints w v xs) (hid0 : okIdeal xs s = true) (hlen : l.length ≤ 3000) :
    Calls Tryz.prog 29 #[.agg #[v, .int .i64 s], .string (sB l)] w fun (r : Ending) w' => (∃ u, r = .returned (.tuple #[.agg #[u, .int .i64 (stepD xs s l).2.1], .string (sB (stepD xs s l).2.2.1)]) ∧ ((u = v ∧ (stepD xs s l).1 = xs) ∨ OwnI 3 w' w.heap.size u (stepD xs s l).1)) ∧ Below w.heap.size w w' := by
  cases hq : lnD l with
  | none => exact coStep_none v xs s l w hv hid0 hlen hq
  | some x =>
    obtain ⟨c, ns, p⟩ := x
    have hf := rdD_fits (show rdD (w0D l) (tsD l) = some (c, ns, p) from hq)
    by_cases h13 : 13 ≤ c
    · exact coStep_as v xs s l w hv hid0 hlen hq h13
    · exact coStep_mv v xs s l w hv hid0 hlen hq hf.1 (by omega)
end Go.Proofs.YtbmhaamenjhjfaaGreatDoor
namespace Go.Proofs.YtbmhaamenjhjfaaGreatDoor
open Go.RowKit Go.WideShapes Go.ChangeShapes
set_option linter.unusedVariables false
theorem laid_tail {P : Program} {x : String × DataW Unit} {r : List (String × DataW Unit)} {W : World} (h : laidMet P (x :: r) W) : laidMet P r W := by
  obtain ⟨ps, hl, hnd, hrows⟩ := h
  obtain ⟨g, t, cs, fuel, p, q, e1, e2, e3, e4, hr, rfl⟩ := hl
  exact ⟨q, hr, hnd.sublist (List.sublist_append_right _ _), fun b off hp => hrows b off (List.mem_append.2 (.inr hp))⟩
theorem trod_ifaceD {P : Program} {w : World} {b fuel : Nat} {sp : Nat → Bool} {t : TypeId} {cs : List Value} {nm : String} {dd : DataW Unit} {p : List MemPlace}
    (hu : (match P.underlying t with | some (.interface _) => true | _ => false) = true) (h : DataW.trod (fun _ => ()) P w b sp false fuel t cs = some (.iface nm dd, p)) : ∃ u v, cs = [.iface u v] := by
  cases fuel with
  | zero => simp [DataW.trod] at h
  | succ fuel =>
    unfold DataW.trod at h
    split at h <;> first | exact ⟨_, _, rfl⟩ | simp_all
theorem starE : "*" ++ "errors.errorString" = "*errors.errorString" := by decide
theorem row_errorString (u : TypeId) (h : Tryz.prog.typeName? 3 u = some "*errors.errorString") : u = 269 :=
  typeName_ptr_named (nm := "errors.errorString") (by rw [starE]; kernel_rfl) (by kernel_rfl) (by decide) u (by rw [starE]; exact h)
theorem globD_of {W : World} {x0 x1 x3 : String × DataW Unit} {r : List (String × DataW Unit)} (hs : W.ShapedOpen Tryz.prog)
    (h : laidMet Tryz.prog (x0 :: x1 :: ("internal/strconv.uint64pow10", Rows.laid_internal_strconv_uint64pow10) :: x3 :: ("strconv.ErrRange", Rows.laid_strconv_ErrRange) :: ("strconv.ErrSyntax", Rows.laid_strconv_ErrSyntax) :: ("loop.example/g01138/impl.errWhat", Rows.laid_loop_example_g01138_impl_errWhat) :: ("loop.example/g01138/impl.errNo", Rows.laid_loop_example_g01138_impl_errNo) :: r) W) :
    ∃ a0 a1, GlobD W a0 a1 := by
  have h2 := laid_tail (laid_tail h)
  have h4 := laid_tail (laid_tail h2)
  have h5 := laid_tail h4
  have h6 := laid_tail h5
  have e10 : (Rows.laid_internal_strconv_uint64pow10 : DataW Unit) = Lib.tabData .u64 Lib.pow10Tab := by kernel_rfl
  rw [e10] at h2
  have htab : Lib.TabIs Tryz.prog W "internal/strconv.uint64pow10" .u64 Lib.pow10Tab :=
    Lib.tabIs_of_head (g := 6) (by kernel_rfl) (by kernel_rfl) (P := Tryz.prog) Tryz.underlying262 Tryz.underlying247 (by kernel_rfl) (by kernel_rfl) h2
  obtain ⟨-, ⟨gr, tr, cr, fr, pr, qr, hgr, htr, hvr, hdr, -⟩, -⟩ := h4
  obtain ⟨-, ⟨gs, ts, cs, fs, ps, qs, hgs, hts, hvs, hds, -⟩, -⟩ := h5
  obtain rfl := Option.some.inj ((show Tryz.prog.globalNamed "strconv.ErrRange" = some 5 by kernel_rfl).symm.trans hgr)
  obtain rfl := Option.some.inj ((show Tryz.prog.globalNamed "strconv.ErrSyntax" = some 4 by kernel_rfl).symm.trans hgs)
  obtain rfl := Option.some.inj ((show (Tryz.prog.globals[5]?).map (·.type) = some 58 by kernel_rfl).symm.trans htr)
  obtain rfl := Option.some.inj ((show (Tryz.prog.globals[4]?).map (·.type) = some 58 by kernel_rfl).symm.trans hts)
  obtain ⟨ur, vr, er⟩ := trod_ifaceD (by kernel_rfl) hdr
  obtain ⟨us, vs, es⟩ := trod_ifaceD (by kernel_rfl) hds
  obtain ⟨a0, a1, s0, s1, c0, c1, t0, t1, hw, hn, -, -, -, -, -, -, hne, hb0, hb1⟩ := laid_sentinels2 (g0 := 0) (g1 := 1) (ti := 58) (tp := 269) (te := 271) (ts := 9) h6 (by kernel_rfl) (by kernel_rfl) (by kernel_rfl) (by kernel_rfl) Tryz.underlying58 row_errorString Tryz.underlying269 Tryz.underlying271 rfl rfl Tryz.underlying9 (by kernel_rfl) (by kernel_rfl)
  refine ⟨a0, a1, ⟨cell_of_shapedOpen_int (t := 3) (zero := #[.int .i64 0]) hs (of_decide_eq_true (by kernel_rfl)) (by kernel_rfl) rfl (by kernel_rfl) (by kernel_rfl) (by kernel_rfl), ⟨_, ?_, .inr ⟨us, vs, rfl⟩⟩, ⟨_, ?_, .inr ⟨ur, vr, rfl⟩⟩⟩, htab, ?_, ?_, hne, ⟨c0, t0, hb0⟩, ⟨c1, t1, hb1⟩⟩
  · rw [World.var?_cell hgs hvs 0, ← Array.getElem?_toList, es]; rfl
  · rw [World.var?_cell hgr hvr 0, ← Array.getElem?_toList, er]; rfl
  · rw [World.var?_cell (show Tryz.prog.globalNamed "loop.example/g01138/impl.errWhat" = some 0 by kernel_rfl) hw 0]; rfl
  · rw [World.var?_cell (show Tryz.prog.globalNamed "loop.example/g01138/impl.errNo" = some 1 by kernel_rfl) hn 0]; rfl
theorem var_stays {P : Program} {W W' : World} {n : String} {g : Nat} {cs : Array Value} (hg : P.globalNamed n = some g) (hv : W.var? P n = some cs) (hb : Below W.heap.size W W') : W'.var? P n = some cs := by
  have hlt : g < W.heap.size := by
    rcases Nat.lt_or_ge g W.heap.size with h | h
    · exact h
    · simp only [World.var?, hg, Option.bind_some] at hv
      rw [Array.getElem?_eq_none h] at hv
      cases hv
  simp only [World.var?, hg, Option.bind_some] at hv ⊢
  rw [hb.block g hlt]
  exact hv
theorem vars_stay {H : Type} {enc : TypeId × Value → H} {W W' : World} {gs : List (DataW H)} {q : List MemPlace} (h : DataW.TrodVars enc Tryz.prog W (fun _ => true) ["loop.example/g01138/impl.errWhat", "loop.example/g01138/impl.errNo"] gs q) (hb : Below W.heap.size W W') (sp : Nat → Bool) :
    DataW.TrodVars enc Tryz.prog W' sp ["loop.example/g01138/impl.errWhat", "loop.example/g01138/impl.errNo"] gs q := by
  obtain ⟨g0, t0, cs0, f0, d0, p0, g1, t1, cs1, f1, d1, p1, rfl, h1, h2, h3, h4, k1, k2, k3, k4, rfl⟩ := trodVars_two h
  obtain rfl := Option.some.inj ((show Tryz.prog.globalNamed "loop.example/g01138/impl.errWhat" = some 0 by kernel_rfl).symm.trans h1)
  obtain rfl := Option.some.inj ((show Tryz.prog.globalNamed "loop.example/g01138/impl.errNo" = some 1 by kernel_rfl).symm.trans k1)
  obtain rfl := Option.some.inj ((show (Tryz.prog.globals[0]?).map (·.type) = some 58 by kernel_rfl).symm.trans h2)
  obtain rfl := Option.some.inj ((show (Tryz.prog.globals[1]?).map (·.type) = some 58 by kernel_rfl).symm.trans k2)
  obtain ⟨x0, rfl, hx0, rfl, rfl, -⟩ := token_of h1 Tryz.underlying58 h3 h4
  obtain ⟨x1, rfl, hx1, rfl, rfl, -⟩ := token_of k1 Tryz.underlying58 k3 k4
  exact ⟨_, _, #[x0], 1, [], MemPlace.row ⟨1, 0, none⟩ 1, h1, h2, var_stays h1 h3 hb, trod_held Tryz.underlying58 hx0 0, ⟨_, _, #[x1], 1, [], [], k1, k2, var_stays k1 k3 hb, trod_held Tryz.underlying58 hx1 0, rfl, by simp⟩, by simp⟩
end Go.Proofs.YtbmhaamenjhjfaaGreatDoor
