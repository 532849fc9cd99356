/- The program's own Check, of layer 11, as landed at 97b3c5cd. -/
import Derived.Test.YtjifdoneejofiabY4
namespace Go.Proofs.Ytjifdoneejofiab
open Go.RowKit Go.Deep
set_option linter.unusedVariables false
set_option linter.unusedSimpArgs false

theorem Tr.fset_snoc {t : List Tr.It} {i : Nat} {x : Tr.It} (h : t[i]? = some x) (k : Tr.B) : Tr.fset (t.take (i + 1)) k = (Tr.fset (t.take i) k || (decide (x.path = k) && decide (x.kind = 2))) := by
  unfold Tr.fset
  rw [Tr.take_snoc h, Tr.hasB_snoc, Bool.or_assoc]
theorem bw_of_bx11 {w u v : World} {g : Nat} (h : Bw w u) (k : Bx (· = g) u v) (hg : w.heap.size ≤ g) : Bw w v := Below.trans h (k.below h.size (fun b e => by rw [e]; exact hg))
theorem set_congr {w : World} {g n : Nat} {f h : Tr.B → Bool} (a : SetAt w g n f) (e : ∀ k, h k = f k) : SetAt w g n h := by
  obtain ⟨D, h1, h2, h3⟩ := a
  exact ⟨D, h1, h2, fun k => by rw [h3, e]⟩
theorem set_more {w : World} {g n m : Nat} {f : Tr.B → Bool} (a : SetAt w g n f) (h : n ≤ m) : SetAt w g m f := by
  obtain ⟨D, h1, h2, h3⟩ := a
  exact ⟨D, World.ownsMap.mono h1 h, h2, h3⟩

theorem keep_six11 {w1 w w' : World} {g : Nat} {v0 v1 v2 v3 v4 v5 : Value} (h : w.cell? ⟨g, 0, none⟩ = some v0 ∧ w.cell? ⟨g, 1, none⟩ = some v1 ∧ w.cell? ⟨g, 2, none⟩ = some v2 ∧ w.cell? ⟨g, 3, none⟩ = some v3 ∧ w.cell? ⟨g, 4, none⟩ = some v4 ∧ w.cell? ⟨g, 5, none⟩ = some v5 ∧ Bw w1 w) (k : Bw w w') :
    w'.cell? ⟨g, 0, none⟩ = some v0 ∧ w'.cell? ⟨g, 1, none⟩ = some v1 ∧ w'.cell? ⟨g, 2, none⟩ = some v2 ∧ w'.cell? ⟨g, 3, none⟩ = some v3 ∧ w'.cell? ⟨g, 4, none⟩ = some v4 ∧ w'.cell? ⟨g, 5, none⟩ = some v5 ∧ Bw w1 w' := by
  obtain ⟨h0, h1, h2, h3, h4, h5, h6⟩ := h
  exact ⟨keep_cell11 h0 k, keep_cell11 h1 k, keep_cell11 h2 k, keep_cell11 h3 k, keep_cell11 h4 k, keep_cell11 h5 k, h6.trans k⟩
theorem six_bw11 {w1 w : World} {g : Nat} {v0 v1 v2 v3 v4 v5 : Value} (h : w.cell? ⟨g, 0, none⟩ = some v0 ∧ w.cell? ⟨g, 1, none⟩ = some v1 ∧ w.cell? ⟨g, 2, none⟩ = some v2 ∧ w.cell? ⟨g, 3, none⟩ = some v3 ∧ w.cell? ⟨g, 4, none⟩ = some v4 ∧ w.cell? ⟨g, 5, none⟩ = some v5 ∧ Bw w1 w) : Bw w1 w := h.2.2.2.2.2.2
set_option maxRecDepth 100000 in
set_option maxHeartbeats 8000000 in
theorem tcheck_any (A : Option Addr) (cap : Nat) (L : List Tr.Iv) (hn : L.length ≤ 4611686018427387904) (hcap : L.length ≤ cap) (w : World) (ha : ItsAt w A L) :
    Calls Try.prog 9 #[.slice A L.length cap] w fun e w' => e = .returned (.tuple #[.int .i64 ((Tr.chkE (Tr.its L)).1 : Int), .int .i64 (Tr.chkE (Tr.its L)).2]) ∧ Bw w w' := by
  obtain ⟨rA, rE, hR⟩ : ∃ a b, Hid (Tr.chkE (Tr.its L) = (a, b)) := ⟨_, _, show Tr.chkE (Tr.its L) = _ from rfl⟩
  rw [hR.out]
  dsimp only
  obtain ⟨n, hnn⟩ : ∃ n, Hid (L.length = n) := ⟨_, rfl⟩
  rw [hnn.out] at hn hcap ⊢
  have HA : Hid (ItsAt w A L) := ha
  clear ha
  by_cases h256 : 256 < n
  · have hr := hR.out
    rw [Tr.chk_long (by rw [Tr.its_len, hnn.out]; exact h256), Prod.mk.injEq] at hr
    obtain ⟨rfl, rfl⟩ := hr
    have t1 : (256 : Int) < (n : Int) := by omega
    clear h256
    go_enter Try.func9, Try.ntmps9
    go_wp2
    go_ret2
    exact ⟨rfl, Bw.refl _⟩
  · have t1 : ¬ (256 : Int) < (n : Int) := by omega
    have HL : Hid ((Tr.its L).length ≤ 256) := by show _ ≤ _; rw [Tr.its_len, hnn.out]; omega
    have hn256 : n ≤ 256 := by omega
    clear h256
    obtain ⟨gm, hgm⟩ : ∃ g, Hid (w.heap.size = g) := ⟨_, rfl⟩
    have hmk : ∀ u : World, (Instr.makeMap 58 none).run Try.prog u = .ok (.map (some u.heap.size)) (u.alloc (.map #[] 0)) := fun u => run_makeMap _ u
    have HS0 := set_new w
    have HB0 : Bw w (w.alloc (.map #[] 0)) := bw_alloc11 (Bw.refl _) _
    obtain ⟨W0, hW0⟩ : ∃ V, V = w.alloc (.map #[] 0) := ⟨_, rfl⟩
    rw [← hW0] at HS0 HB0
    rw [hgm.out] at HS0
    go_enter Try.func9, Try.ntmps9
    go_upto_region 4 with (refine wpList_put11 rfl (.tmp 11) (.const (.string ⟨#[]⟩)) (.tmp 12) (.inr rfl) gm 0 (fun _ => false) [] (by first | rfl | (rw [← hgm.out]; rfl)) (by rw [← hW0]; exact HS0) (by omega) rfl rfl (by decide) ?_; intro W1 hS1 hX1)
    have hb1 : Bw w W1 := bw_of_bx11 (by rw [← hW0]; exact HB0) hX1 (by rw [← hgm.out]; exact Nat.le_refl _)
    have hS2 : SetAt W1 gm 1 (Tr.fset ((Tr.its L).take 0)) := set_congr hS1 (fun k => by unfold Tr.fset; rw [List.take_zero]; rfl)
    have HGM : Hid (w.heap.size ≤ gm) := by show _ ≤ _; rw [hgm.out]; exact Nat.le_refl _
    clear hX1 hS1 HS0 HB0 hW0
    rw [hgm.out]
    go_wp2
    go_loopw [16] (fun i wr => ∃ k : Nat, k ≤ n ∧ i = .int .i64 (k : Int) ∧ Hid (Tr.Okto (Tr.its L) k) ∧ Hid (SetAt wr gm (k + 1) (Tr.fset ((Tr.its L).take k))) ∧ Bw w wr) (fun i _ => n - (intOf i).toNat)
    case atStart => exact ⟨0, Nat.zero_le _, rfl, Tr.okto_zero _, hS2, hb1⟩
    case round =>
      clear hS2 hb1
      obtain ⟨i, hi, rfl, hok, hset, hbw⟩ := hrel
      have i0 : (0 : Int) ≤ (i : Int) := Int.natCast_nonneg _
      by_cases hlt : i < n
      · have i1 : (i : Int) < (n : Int) := by omega
        obtain ⟨y, hy⟩ : ∃ y, Hid (L[i]? = some y) := ⟨_, List.getElem?_eq_getElem (by rw [hnn.out]; exact hlt)⟩
        have HIy : Hid ((Tr.its L)[i]? = some y.it) := Tr.its_at hy.out
        have HFit : Hid (Tr.Fit y.it) := Tr.fit_in HA.out hy.out
        obtain ⟨b, off, rfl, hY, -⟩ := (HA.out.keep hbw).at hy.out
        have HY : Hid (ItAt wr b (off + i * 6) y) := hY
        clear hY
        obtain ⟨es, hes⟩ : ∃ r, Hid (Tr.stepE ((Tr.its L).take i) y.it = r) := ⟨_, rfl⟩
        have hlen : (L.take i).length = i := by rw [List.length_take, hnn.out]; omega
        have HFol : Hid (∀ u m, Bw w u → SetAt u gm m (Tr.fset ((Tr.its L).take i)) → Calls Try.prog 31 #[.slice (some ⟨b, off, none⟩) i cap, .map (some gm), .agg #[.string (Nm.S y.it.path), .int .u8 (y.it.kind : Int), .int .i64 y.it.mode, .int .i64 y.it.time, .slice y.ad y.it.body.length y.cp, .string (Nm.S y.it.to)]] u fun e w' => e = .returned (.int .i64 es) ∧ Bw u w') := fun u m hu hs => by
          have hT := Tr.okto_take hok.out
          have := follow1_any (some ⟨b, off, none⟩) cap gm m (L.take i) y (by rw [hlen]; omega) (by rw [Tr.its_take]; exact Tr.ok_srt hT) (fun z hz => by
            obtain ⟨j, hj⟩ := List.getElem?_of_mem hz
            have h2 := Tr.its_at hj
            rw [Tr.its_take] at h2
            exact Tr.step_may (hT j z.it h2)) HFit.out u ((HA.out.keep hu).take i) (by rw [Tr.its_take]; exact hs)
          rw [hlen, Tr.its_take, hes.out] at this
          exact this
        clear hlen
        have hicap : (i : Int) ≤ (cap : Int) := by omega
        go_upto_region 7 with (first
          | refine wpList_load_it (by rfl) (.tmp 19) rfl b (off + i * 6) rfl y HY.out ?_
          | (refine wpList_store_row rfl 26 _ _ rfl wr.heap.size y.arr rfl rfl 26 _ (heap_alloc_new _ _) (info_it y) rfl (Tr.arr_one y) ?_; rw [setRow_alloc_new]; obtain ⟨W1, hW1⟩ : ∃ V, V = wr.alloc (.cells y.arr 26) := ⟨_, rfl⟩; have hX1 : BoxAt W1 wr.heap.size y := (by rw [hW1]; exact BoxAt.new _ _); have hb1 : Bw wr W1 := (by rw [hW1]; exact bw_alloc11 (Bw.refl _) _); rw [← hW1]; clear hW1; have HS1 : Hid (SetAt W1 gm (i + 1) (Tr.fset ((Tr.its L).take i))) := hset.out.keep hb1; have hbw1 := hbw.trans hb1; obtain ⟨x0, x1, x2, x3, x4, x5⟩ := hX1.cells))
        rw [put_none11]
        go_cut [7] from 21 to 26 (fun v wc => v = .int .i64 es ∧ Bw W1 wc)
        case first =>
          go_region_held3 (fun w' => w'.cell? ⟨wr.heap.size, 0, none⟩ = some (.string (Nm.S y.it.path)) ∧ w'.cell? ⟨wr.heap.size, 1, none⟩ = some (.int .u8 (y.it.kind : Int)) ∧ w'.cell? ⟨wr.heap.size, 2, none⟩ = some (.int .i64 y.it.mode) ∧ w'.cell? ⟨wr.heap.size, 3, none⟩ = some (.int .i64 y.it.time) ∧ w'.cell? ⟨wr.heap.size, 4, none⟩ = some (.slice y.ad y.it.body.length y.cp) ∧ w'.cell? ⟨wr.heap.size, 5, none⟩ = some (.string (Nm.S y.it.to)) ∧ Bw W1 w')
            (first | exact ⟨x0, x1, x2, x3, x4, x5, Below.drew (Bw.refl _)⟩ | assumption | exact keep_six11 (by assumption) (by assumption))
            (first | (go_at_call 31; refine (HFol.out _ (i + 1) (hbw1.trans (by first | assumption | exact six_bw11 (by assumption))) (HS1.out.keep (by first | assumption | exact six_bw11 (by assumption)))).mono ?_; rintro e w5 ⟨rfl, hw5⟩))
          rename_i hSe
          have hSw := hSe.2.2.2.2.2.2
          go_wp2_with fail
          go_meet
          case rel => exact ⟨rfl, hSw⟩
        case rest =>
          obtain ⟨rfl, hwc⟩ := hcut
          obtain ⟨x0', x1', -, -, -, -⟩ := (hX1.keep hwc).cells
          have hbc := hbw1.trans hwc
          have HSc : Hid (SetAt wc gm (i + 1) (Tr.fset ((Tr.its L).take i))) := HS1.out.keep hwc
          clear x0 x1 x2 x3 x4 x5 hX1 hwc
          by_cases h0 : es = 0
          · subst h0
            have nx : Hid (Tr.Okto (Tr.its L) (i + 1)) := Tr.okto_succ hok.out HIy.out hes.out
            have hpl : y.it.path.length ≤ 140737488355328 := by have := HFit.out.path; omega
            by_cases hk : y.it.kind = 2
            · have q1 : ((y.it.kind : Int) == 2) = true := by rw [hk]; rfl
              have HK : Hid (y.it.kind = 2) := hk
              clear hk
              go_wp2_with (refine wpList_put11 rfl (.tmp 34) (.tmp 36) (.tmp 37) (.inl rfl) gm (i + 1) _ y.it.path rfl HSc.out (by omega) rfl rfl hpl ?_; intro W6 hS6 hX6)
              go_roundw
              case rel => exact ⟨i + 1, by omega, by go_num, nx, set_congr hS6 (fun k => by rw [Tr.fset_snoc HIy.out, decide_eq_true HK.out, Bool.and_true, Bool.or_comm]; congr 1; rw [decide_eq_decide]; exact eq_comm), bw_of_bx11 hbc hX6 HGM.out⟩
              case measure => simp [intOf]; omega
            · have q1 : ((y.it.kind : Int) == 2) = false := by rw [beq_eq_false_iff_ne]; omega
              have HK : Hid (y.it.kind ≠ 2) := hk
              clear hk
              go_wp2
              go_roundw
              case rel => exact ⟨i + 1, by omega, by go_num, nx, set_congr (set_more HSc.out (by omega)) (fun k => by rw [Tr.fset_snoc HIy.out, decide_eq_false HK.out, Bool.and_false, Bool.or_false]), hbc⟩
              case measure => simp [intOf]; omega
          · have hr := hR.out
            rw [Tr.chk_bad HL.out hok.out HIy.out (by rw [hes.out]; exact h0), hes.out, Prod.mk.injEq] at hr
            obtain ⟨rfl, rfl⟩ := hr
            have q1 := Tr.i_no h0
            clear h0
            go_wp2
            go_ret2
            exact ⟨rfl, hbc⟩
      · have ei : i = n := by omega
        subst ei
        have hr := hR.out
        rw [Tr.chk_good HL.out (Tr.okto_all (by rw [Tr.its_len, hnn.out]; exact hok.out)), Prod.mk.injEq] at hr
        obtain ⟨rfl, rfl⟩ := hr
        go_wp2
        go_ret2
        exact ⟨rfl, hbw⟩
end Go.Proofs.Ytjifdoneejofiab
