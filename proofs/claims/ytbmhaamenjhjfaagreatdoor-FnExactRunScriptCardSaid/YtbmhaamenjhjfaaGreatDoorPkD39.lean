/- DskUc -/
import Derived.Test.YtbmhaamenjhjfaaGreatDoorPkD35
import Derived.Test.YtbmhaamenjhjfaaGreatDoorPkD38
namespace Go.Proofs.YtbmhaamenjhjfaaGreatDoor
open Go.RowKit Go.WideShapes Go.ChangeShapes
set_option linter.unusedVariables false
structure RmW (w2 : World) (B : Nat) (ls : List (List UInt8)) (k : Nat) (u : Value) (s : Int) (xs : List Int) (rv : Value) (wr : World) : Prop where
  box : Blk wr w2.heap.size 30 #[u, .int .i64 s]
  hx : (runD ls k).1 = xs
  hs : (runD ls k).2 = s
  own : OwnI 3 wr B u xs
  ne : ∀ j, u.ownBlock = some j → j ≠ w2.heap.size ∧ rv.ownBlock ≠ some j
  reps : StrOwn 9 wr (w2.heap.size + 1) rv (repsD ls k)
  bel : Below w2.heap.size w2 wr
theorem StrOwn.ownLt {ts : TypeId} {w : World} {B : Nat} {v : Value} {ls : List (List UInt8)} (h : StrOwn ts w B v ls) : ∀ k, v.ownBlock = some k → B ≤ k ∧ k < w.heap.size := World.ownsRow.lt h
theorem StrOwn.grownR {ts : TypeId} {w w' : World} {B : Nat} {v : Value} {ls : List (List UInt8)} {row : Option Nat} (h : StrOwn ts w B v ls) (hg : w.grownBy w' row) (hr : ∀ k, v.ownBlock = some k → row ≠ some k) : StrOwn ts w' B v ls := by
  refine World.ownsRow.kept h hg ?_
  cases hq : v.ownBlock with
  | none => exact .inl rfl
  | some k => exact .inr (fun e => hr k hq e.symm)
theorem StrOwn.away {ts : TypeId} {W : World} {B : Nat} {v : Value} {ls : List (List UInt8)} (h : StrOwn ts W B v ls) {g : Nat} (hg : ∀ k, v.ownBlock = some k → k ≠ g) (i : Nat) (y : Value) : StrOwn ts (W.setCell ⟨g, i, none⟩ y) B v ls :=
  h.grownR (grown_set W g i y) (fun k hk e => hg k hk (by injection e with e; exact e.symm))
theorem StrOwn.monoU {ts : TypeId} {w : World} {B B' : Nat} {v : Value} {ls : List (List UInt8)} (h : StrOwn ts w B v ls) (hB : B' ≤ B) : StrOwn ts w B' v ls := by
  obtain ⟨h1, h2⟩ := h
  refine ⟨h1, ?_⟩
  rcases h2 with h2 | ⟨g, cap, cur, rfl, hb, r⟩
  · exact .inl h2
  · exact .inr ⟨g, cap, cur, rfl, Nat.le_trans hB hb, r⟩
structure RmO (w2 W : World) (B h : Nat) (d0 d1 u : Value) (s : Int) (xs : List Int) (rv : Value) (rs : List (List UInt8)) : Prop where
  box : Blk W w2.heap.size 30 #[d0, d1]
  nxt : Blk W h 30 #[u, .int .i64 s]
  own : OwnI 3 W B u xs
  reps : StrOwn 9 W (w2.heap.size + 1) rv rs
  ne : ∀ j, u.ownBlock = some j → j ≠ w2.heap.size ∧ rv.ownBlock ≠ some j
  qlt : w2.heap.size < h
  bel : Below w2.heap.size w2 W
theorem RmO.desk {w2 W : World} {B h : Nat} {d0 d1 u : Value} {s : Int} {xs : List Int} {rv : Value} {rs : List (List UInt8)} (H : RmO w2 W B h d0 d1 u s xs rv rs) (y0 y1 : Value) : RmO w2 ((W.setCell ⟨w2.heap.size, 0, none⟩ y0).setCell ⟨w2.heap.size, 1, none⟩ y1) B h y0 y1 u s xs rv rs := by
  have hq := H.qlt
  have ha : ∀ k, rv.ownBlock = some k → k ≠ w2.heap.size := fun k hk => by have := (H.reps.ownLt k hk).1; omega
  exact ⟨(H.box.set_ 0 y0).set_ 1 y1, H.nxt.put2 (by omega) _ _, (H.own.away (fun k hk => (H.ne k hk).1) 0 y0).away (fun k hk => (H.ne k hk).1) 1 y1, (H.reps.away ha 0 y0).away ha 1 y1, H.ne, hq,
    (H.bel.setCell (p := ⟨w2.heap.size, 0, none⟩) (Nat.le_refl _) y0).setCell (p := ⟨w2.heap.size, 1, none⟩) (Nat.le_refl _) y1⟩
theorem RmO.next {w2 W w6 : World} {ls : List (List UInt8)} {B k h : Nat} {u : Value} {s : Int} {xs : List Int} {rv rv' : Value} {t : List UInt8} (H : RmO w2 W B h u (.int .i64 s) u s xs rv (repsD ls k)) (hx : (runD ls (k + 1)).1 = xs) (hs : (runD ls (k + 1)).2 = s) (hr : (repD ls k).1 = t)
    (h1 : StrOwn 9 w6 (w2.heap.size + 1) rv' (repsD ls k ++ [t])) (h2 : Below (w2.heap.size + 1) W w6) (h3 : Beside W w6 rv rv') : RmW w2 B ls (k + 1) u s xs rv' w6 := by
  have hb := h3 _ _ _ _ H.own (fun j hj => (H.ne j hj).2)
  refine ⟨(h2.block _ (Nat.lt_succ_self _)).trans H.box, hx, hs, hb.1, fun j hj => ⟨(H.ne j hj).1, hb.2 j hj⟩, ?_, H.bel.trans (h2.mono (Nat.le_succ _))⟩
  rw [repsD_succ, hr]; exact h1
set_option maxRecDepth 100000 in
set_option maxHeartbeats 1600000 in
theorem coRun_any (l : List UInt8) (w : World) (hs : l.length ≤ 1048576) :
    Calls Tryz.prog 40 #[.string (sB l)] w fun (r : Ending) w' =>
      ((okSc l = false ∧ r = .returned (.tuple #[.agg #[.slice none 0 0, .int .i64 0], .slice none 0 0, .bool false])) ∨
       (okSc l = true ∧ ∃ u rv, r = .returned (.tuple #[.agg #[u, .int .i64 (runD (lnsD l) (nlD l)).2], rv, .bool true]) ∧ OwnI 3 w' w.heap.size u (runD (lnsD l) (nlD l)).1 ∧ StrOwn 9 w' w.heap.size rv (repsD (lnsD l) (nlD l)))) ∧ Below w.heap.size w w' := by
  have HLp := hid (fun h k => lnsD_part (s := l) h k)
  have HZ := hid (Blk.new w 30 #[.slice none 0 0, .int .i64 0])
  have HB0 := hid (below_alloc (Below.refl _ w) (.cells #[.slice none 0 0, .int .i64 0] 30))
  have hsz := sB_size l
  have hnl := splitL_length 10 l
  have HEq : Hid (okSc l = (decide (l.length ≤ 3000) && (decide ((splitL 10 l).getD (nlD l) [] = []) && decide (nlD l ≤ 50)))) := hid rfl
  have hms := nlD_succ l
  rw [← hms] at hnl
  have HGt := hid (fun j (h : j < nlD l) => lnsD_getD h)
  have HSp := hid (fun W => l1SplitRow_any 10 10 rfl l W hs)
  obtain ⟨m, hm⟩ : ∃ m, nlD l = m := ⟨_, rfl⟩
  obtain ⟨ls, hls⟩ : ∃ ls, lnsD l = ls := ⟨_, rfl⟩
  rw [hls] at HLp
  simp only [hm, hls] at HEq hms hnl HGt ⊢
  obtain ⟨S, hS⟩ : ∃ S, sB l = S := ⟨_, rfl⟩
  rw [hS] at hsz HSp ⊢
  have HMs := hid hms
  clear hm hls hS hms
  go_enter Tryz.func40, Tryz.ntmps40
  by_cases h3 : l.length ≤ 3000
  · have hlt : ¬ (3000 : Int) < (S.size : Int) := by omega
    go_wp2_with fail
    refine (HSp.out _).mono ?_
    rintro e w1 ⟨b, n, cap, hn, rfl, hcap, hbl, hbw, hcell, hb⟩
    rw [← HMs.out] at hn
    subst hn
    have HZ1 := hid (HZ.out.below hb (by simp))
    have HB1 := hid (below_to HB0.out hb)
    have hz1 : w.heap.size < w1.heap.size := HZ1.out.lt
    have HC := hid hcell
    have cm := hcell m (by omega)
    have hmm : (((m + 1 : Nat) : Int)) = (m : Int) + 1 := by omega
    have hm1 : IntKind.i64.wrap ((((m + 1 : Nat) : Int)) - 1) = (m : Int) := by
      rw [show (((m + 1 : Nat) : Int)) - 1 = (m : Int) by omega]
      exact wrap_small _ (by omega) (by omega)
    clear hb hcell HZ HB0 HSp
    by_cases hx : (splitL 10 l).getD m [] = []
    · have he : (sB ((splitL 10 l).getD m [])).toList.isEmpty = true := by rw [hx, sB_toList]; rfl
      have HX := hid hx
      obtain ⟨X, hX⟩ : ∃ X, sB ((splitL 10 l).getD m []) = X := ⟨_, rfl⟩
      rw [hX] at cm he
      clear hX hx
      by_cases h50 : m ≤ 50
      · have h50' : ¬ (50 : Int) < (m : Int) := by omega
        have HOk : Hid (okSc l = true) := hid (by rw [HEq.out, decide_eq_true h3, decide_eq_true HX.out, decide_eq_true h50]; rfl)
        go_wp2_with fail
        clear cm
        refine (specFirstDesk_any _).mono ?_
        rintro e w2 ⟨u0, rfl, ho, -, hb⟩
        have HZ2 := hid (HZ1.out.below hb hz1)
        have HB2 := hid (below_to HB1.out hb)
        have hz2 : w.heap.size < w2.heap.size := HZ2.out.lt
        have hbl2 : b < w2.heap.size := Nat.lt_of_lt_of_le hbl hb.size
        have HC2 : Hid (∀ j, j < m → w2.cell? ⟨b, j, none⟩ = some (.string (sB (ls.getD j [])))) := hid (fun j hj => by rw [HGt.out j hj]; exact cell_later (HC.out j (by omega)) hb)
        have HO := hid ho
        obtain ⟨uA, un, uc, rfl⟩ := ho.shape3
        have HR0 : Hid (RmW w2 (w.heap.size + 1) ls 0 (.slice uA un uc) 0 (rectL 2 2) (.slice none 0 0) (w2.alloc (.cells #[.slice uA un uc, .int .i64 0] 30))) := hid ⟨Blk.new w2 _ _, rfl, rfl, World.ownsRow.alloc (OwnI.mono HO.out (by omega)) _, fun j hj => ⟨by have := (OwnI.blockLt HO.out j hj).2; omega, by simp [Value.ownBlock]⟩, StrOwn.nil _ _ _, below_alloc (Below.refl _ w2) _⟩
        clear ho hb HC HO HZ1 HB1
        go_wp2
        generalize (w2.alloc (.cells #[.slice uA un uc, .int .i64 0] 30)) = W2 at HR0 ⊢
        go_loopw [8, 37] (fun rv i wr => ∃ (k : Nat) (u : Value) (sv : Int) (xs : List Int), k ≤ m ∧ i = .int .i64 k ∧ RmW w2 (w.heap.size + 1) ls k u sv xs rv wr) (fun _ i _ => m - (intOf i).toNat)
        case atStart => exact ⟨0, _, _, _, Nat.zero_le _, rfl, HR0.out⟩
        case round =>
          obtain ⟨k, u, sv, xs, hk, rfl, hR⟩ := hrel
          have HE := hid hR
          have HPt := HLp.out HOk.out k
          obtain ⟨uA, un, uc, rfl⟩ := hR.own.shape3
          obtain ⟨oA, oc, rfl⟩ := hR.reps.shape3
          rw [repsD_length] at HE ⊢
          clear hR
          by_cases hlt2 : k < m
          · obtain ⟨t, ht⟩ : ∃ t, ls.getD k [] = t := ⟨_, rfl⟩
            have kc : wr.cell? ⟨b, k, none⟩ = some (.string (sB t)) := by rw [← ht]; exact (HE.out.bel.cell (p := ⟨b, k, none⟩) hbl2).trans (HC2.out k hlt2)
            have d0 := HE.out.box.cell 0
            have d1 := HE.out.box.cell 1
            rw [ht] at HPt
            have HSt : Hid (∀ X, stepD xs sv t = X → (runD ls (k + 1)).1 = X.1 ∧ (runD ls (k + 1)).2 = X.2.1 ∧ repD ls k = X.2.2) := hid (by
              rintro X rfl
              have h1 := HE.out.hx
              have h2 := HE.out.hs
              refine ⟨?_, ?_, ?_⟩
              · show (stepD (runD ls k).1 (runD ls k).2 (ls.getD k [])).1 = _; rw [h1, h2, ht]
              · show (stepD (runD ls k).1 (runD ls k).2 (ls.getD k [])).2.1 = _; rw [h1, h2, ht]
              · show (stepD (runD ls k).1 (runD ls k).2 (ls.getD k [])).2.2 = _; rw [h1, h2, ht])
            have HIk : Hid (okIdeal xs sv = true) := hid (by have := runD_ok ls k; rw [HE.out.hx, HE.out.hs] at this; exact this)
            clear ht
            go_wp2_with fail
            clear kc d0 d1
            refine (coStep_any _ xs sv t _ HE.out.own.ints HIk.out HPt).mono ?_
            rintro e w3 ⟨⟨v, rfl, hu⟩, hb3⟩
            obtain ⟨X, hX⟩ : ∃ X, stepD xs sv t = X := ⟨_, rfl⟩
            obtain ⟨xs', s', t', code⟩ := X
            obtain ⟨hx1, hx2, hx3⟩ := HSt.out _ hX
            rw [hX] at hu ⊢
            simp only at hx1 hx2 hx3 hu ⊢
            have HX1 := hid hx1
            have HX2 := hid hx2
            have HX3 : Hid ((repD ls k).1 = t') := hid (by rw [hx3])
            clear hX hx1 hx2 hx3 HSt
            have hwz : w.heap.size + 1 ≤ wr.heap.size := Nat.le_trans hz2 HE.out.bel.size
            have hqz : w2.heap.size < wr.heap.size := HE.out.box.lt
            have hrz : wr.heap.size ≤ w3.heap.size := hb3.size
            have HD3 := hid (HE.out.box.below hb3 HE.out.box.lt)
            have HO3 : Hid (StrOwn 9 w3 (w2.heap.size + 1) (.slice oA k oc) (repsD ls k)) := hid (HE.out.reps.below hb3)
            have hown : OwnI 3 w3 (w.heap.size + 1) v xs' ∧ ∀ j, v.ownBlock = some j → j ≠ w2.heap.size ∧ (Value.slice oA k oc).ownBlock ≠ some j := by
              rcases hu with ⟨rfl, rfl⟩ | hu
              · exact ⟨HE.out.own.below hb3, HE.out.ne⟩
              · refine ⟨hu.mono hwz, fun j hj => ?_⟩
                have h1 := OwnI.blockLt hu j hj
                exact ⟨by omega, fun e => by have := (HE.out.reps.ownLt j e).2; omega⟩
            have HU := hid hown.1
            have HNe := hid hown.2
            obtain ⟨vA, vn, vc, rfl⟩ := hown.1.shape3
            have HB3 := hid (HE.out.bel.trans (hb3.mono (by omega)))
            have HW : Hid (RmO w2 (w3.alloc (.cells #[.slice vA vn vc, .int .i64 s'] 30)) (w.heap.size + 1) w3.heap.size (.slice uA un uc) (.int .i64 sv) (.slice vA vn vc) s' xs' (.slice oA k oc) (repsD ls k)) := hid
              ⟨HD3.out.alloc _, Blk.new w3 _ _, World.ownsRow.alloc HU.out _, World.ownsRow.alloc HO3.out _, HNe.out, HD3.out.lt, below_alloc HB3.out _⟩
            clear hu hown hb3 HE
            go_upto_region 13 with (fail)
            obtain ⟨h, hh⟩ : ∃ h, w3.heap.size = h := ⟨_, rfl⟩
            rw [hh] at HW
            generalize w3.alloc (.cells #[.slice vA vn vc, .int .i64 s'] 30) = W3 at HW ⊢
            rw [hh]
            clear hh
            have n0 : W3.cell? ⟨h, 0, none⟩ = some (.slice vA vn vc) := HW.out.nxt.cell 0
            have n1 : W3.cell? ⟨h, 1, none⟩ = some (.int .i64 s') := HW.out.nxt.cell 1
            have d0 := HW.out.box.cell 0
            have d1 := HW.out.box.cell 1
            have f0 := HW.out.box.frozen 0
            have f1 := HW.out.box.frozen 1
            have HW5 := hid (HW.out.desk (.slice vA vn vc) (.int .i64 s'))
            go_upto_region 14 with (fail)
            generalize (W3.setCell ⟨w2.heap.size, 0, none⟩ (.slice vA vn vc)).setCell ⟨w2.heap.size, 1, none⟩ (.int .i64 s') = W5 at HW5 ⊢
            clear n0 n1 d0 d1 f0 f1
            have hz5 : w2.heap.size + 1 ≤ W5.heap.size := HW5.out.box.lt
            have HOO : Hid (StrOwn 9 W5 (w2.heap.size + 1) (.slice oA k oc) (repsD ls k)) := hid HW5.out.reps
            go_wp2_with (at_builtin; refine wpList_append_strB rfl _ _ 37 9 rfl Tryz.underlying37 Tryz.info9 (w2.heap.size + 1) _ (repsD ls k) t' rfl HOO.out rfl rfl (by rw [repsD_length]; omega) hz5 ?_; rintro q6 w6 ho6 hb6 hbs6)
            have hfin := HW5.out.next HX1.out HX2.out HX3.out ho6 hb6 hbs6
            go_roundw
            case rel => exact ⟨k + 1, _, _, _, by omega, by go_num, hfin⟩
            case measure => simp [intOf] <;> omega
          · obtain rfl : k = m := by omega
            have z0 : wr.cell? ⟨w.heap.size, 0, none⟩ = some (.slice none 0 0) := (HE.out.bel.cell (p := ⟨w.heap.size, 0, none⟩) hz2).trans (HZ2.out.cell 0)
            have z1 : wr.cell? ⟨w.heap.size, 1, none⟩ = some (.int .i64 0) := (HE.out.bel.cell (p := ⟨w.heap.size, 1, none⟩) hz2).trans (HZ2.out.cell 1)
            have HZw := hid (show Blk wr w.heap.size 30 #[.slice none 0 0, .int .i64 0] from (HE.out.bel.block _ hz2).trans HZ2.out)
            have y0 := HZw.out.frozen 0
            have y1 := HZw.out.frozen 1
            have d0 := HE.out.box.cell 0
            have d1 := HE.out.box.cell 1
            have hx := HE.out.hx
            have hs2 := HE.out.hs
            have HX := hid hx
            have HS := hid hs2
            clear hx hs2
            go_wp2
            refine bodyPost_ret (v := .tuple #[.agg #[.slice uA un uc, .int .i64 sv], .slice oA k oc, .bool true]) (by simp [results, Tryz.results40, go_sem, z0, z1]) rfl ⟨.inr ⟨HOk.out, _, _, by rw [HS.out], ?_, ?_⟩, ?_⟩
            · rw [HX.out]
              exact ((HE.out.own.away (fun j hj => by have := (OwnI.blockLt HE.out.own j hj).1; omega) 0 _).away (fun j hj => by have := (OwnI.blockLt HE.out.own j hj).1; omega) 1 _).mono (by omega)
            · exact ((HE.out.reps.away (fun j hj => by have := (HE.out.reps.ownLt j hj).1; omega) 0 _).away (fun j hj => by have := (HE.out.reps.ownLt j hj).1; omega) 1 _).monoU (by omega)
            · exact below_put2 (HB2.out.trans (HE.out.bel.mono (by omega))) _ (Nat.le_refl _) _ _
      · have h50' : (50 : Int) < (m : Int) := by omega
        have HOk : Hid (okSc l = false) := hid (by rw [HEq.out, decide_eq_false h50]; simp)
        have z0 : w1.cell? ⟨w.heap.size, 0, none⟩ = some (.slice none 0 0) := HZ1.out.cell 0
        have z1 : w1.cell? ⟨w.heap.size, 1, none⟩ = some (.int .i64 0) := HZ1.out.cell 1
        have y0 := HZ1.out.frozen 0
        have y1 := HZ1.out.frozen 1
        go_wp2
        refine bodyPost_ret (v := .tuple #[.agg #[.slice none 0 0, .int .i64 0], .slice none 0 0, .bool false]) (by simp [results, Tryz.results40, go_sem, z0, z1]) rfl ⟨.inl ⟨HOk.out, rfl⟩, ?_⟩
        exact below_put2 HB1.out _ (Nat.le_refl _) _ _
    · have he : (sB ((splitL 10 l).getD m [])).toList.isEmpty = false := by
        rw [sB_toList]
        cases h : (splitL 10 l).getD m [] with
        | nil => exact absurd h hx
        | cons a r => rfl
      have HOk : Hid (okSc l = false) := hid (by rw [HEq.out, decide_eq_false hx]; simp)
      obtain ⟨X, hX⟩ : ∃ X, sB ((splitL 10 l).getD m []) = X := ⟨_, rfl⟩
      rw [hX] at cm he
      clear hX hx
      have z0 : w1.cell? ⟨w.heap.size, 0, none⟩ = some (.slice none 0 0) := HZ1.out.cell 0
      have z1 : w1.cell? ⟨w.heap.size, 1, none⟩ = some (.int .i64 0) := HZ1.out.cell 1
      have y0 := HZ1.out.frozen 0
      have y1 := HZ1.out.frozen 1
      go_wp2
      refine bodyPost_ret (v := .tuple #[.agg #[.slice none 0 0, .int .i64 0], .slice none 0 0, .bool false]) (by simp [results, Tryz.results40, go_sem, z0, z1]) rfl ⟨.inl ⟨HOk.out, rfl⟩, ?_⟩
      exact below_put2 HB1.out _ (Nat.le_refl _) _ _
  · have hlt : (3000 : Int) < (S.size : Int) := by omega
    have HOk : Hid (okSc l = false) := hid (by rw [HEq.out, decide_eq_false h3]; rfl)
    have HZ1 := HZ
    have HB1 := HB0
    have z0 : (w.alloc (.cells #[.slice none 0 0, .int .i64 0] 30)).cell? ⟨w.heap.size, 0, none⟩ = some (.slice none 0 0) := HZ1.out.cell 0
    have z1 : (w.alloc (.cells #[.slice none 0 0, .int .i64 0] 30)).cell? ⟨w.heap.size, 1, none⟩ = some (.int .i64 0) := HZ1.out.cell 1
    have y0 := HZ1.out.frozen 0
    have y1 := HZ1.out.frozen 1
    go_wp2
    refine bodyPost_ret (v := .tuple #[.agg #[.slice none 0 0, .int .i64 0], .slice none 0 0, .bool false]) (by simp [results, Tryz.results40, go_sem, z0, z1]) rfl ⟨.inl ⟨HOk.out, rfl⟩, ?_⟩
    exact HB1.out
end Go.Proofs.YtbmhaamenjhjfaaGreatDoor
