/- Layer 15: holding; recordsOf. -/
import Derived.Test.YtppknadflmjefaaWE
import Derived.Defers
import Derived.Recover
import Derived.WalkLawsBesides
import Derived.Laws.Pointers
namespace Go.Proofs.Ytppknadflmjefaa
open Go.RowKit Go.Deep Go.Maps
set_option linter.unusedVariables false
set_option linter.unusedSimpArgs false

/-- a head in a block of its own -/
def HedAt (w : World) (z : Nat) (h : Jl.Hed) : Prop := w.heap[z]? = some (.cells (hcell h) 85 (0, 0))
theorem HedAt.keep {w w' : World} {z : Nat} {h : Jl.Hed} (k : HedAt w z h) (b : Bw w w') : HedAt w' z h := (b.block z (Array.getElem?_eq_some_iff.1 k).1).trans k
theorem HedAt.c0 {w : World} {z : Nat} {h : Jl.Hed} (k : HedAt w z h) : w.cell? ⟨z, 0, none⟩ = some (.int .u64 (h.n : Int)) := cell_of_row w z 0 _ _ _ k
theorem hcell_all (h : Jl.Hed) : (hcell h).all (·.oneCell') = true := by kernel_rfl
theorem info_head15 : (Try.prog.info? 85).map (·.size) = some 3 := by kernel_rfl
theorem zero_head15 (w : World) : (zeroValue 85).run Try.prog w = .ok (.agg (hcell Jl.no)) w := by kernel_rfl
set_option maxRecDepth 100000 in
theorem jholding_any (b1 room : Nat) (b : Nat → Int) (hr : room ≤ 4294967295) (w : World) (h : RowAt w (some ⟨b1, 0, none⟩) 128 b) :
    Calls Try.prog 65 #[.slice (some ⟨b1, 0, none⟩) 128 128, .int .i64 (room : Int)] w fun e w' => e = .returned (.agg (hcell (Jl.hold b room))) ∧ Bw w w' := by
  have hz0 := zero_head15
  have hrow : Hid (∀ W i, Bw w W → i < 2 → RowAt W (some ⟨b1, i * 64, none⟩) 64 (fun c => b (64 * i + c))) := fun W i k hi => by
    obtain ⟨b', o', e, hc⟩ := h.at (k := 0) (by omega)
    cases e
    refine ⟨Or.inr ⟨b1, i * 64, rfl, fun c hc' => ?_⟩, fun c => h.2 _⟩
    have := hc (64 * i + c) (by omega)
    rw [Nat.zero_add] at this
    rw [show i * 64 + c = 64 * i + c by omega]
    exact (k.cell (p := ⟨b1, 64 * i + c, none⟩) (block_lt_of_cell this)).trans this
  obtain ⟨z, hz⟩ : ∃ z, Hid (w.heap.size = z) := ⟨_, rfl⟩
  clear h
  go_enter Try.func65, Try.ntmps65
  go_wp2
  obtain ⟨W0, hW0⟩ : ∃ W, Hid ((w.alloc (.cells (hcell Jl.no) 85)).alloc (.cells (hcell Jl.no) 85) = W) := ⟨_, rfl⟩
  have hA0 : HedAt W0 z Jl.no := by rw [← hW0.out, ← hz.out]; exact heap_alloc2_old _ _ _
  have hA1 : HedAt W0 (z + 1) Jl.no := by rw [← hW0.out, ← hz.out]; exact heap_alloc2_new _ _ _
  have hbw0 : Bw w W0 := by rw [← hW0.out]; exact Below.alloc (Below.alloc (Bw.refl _) (Nat.le_refl _) _) (by rw [size_alloc]; omega) _
  rw [hW0.out, hz.out]
  go_loopw [10] (fun i wr => ∃ (k : Nat) (hh : Jl.Hed), k ≤ 2 ∧ i = .int .i64 (k : Int) ∧ Hid (hh = if k = 0 then Jl.no else if k = 1 then Jl.pick Jl.no (Jl.hed b 0 room) else Jl.hold b room) ∧ HedAt wr z Jl.no ∧ HedAt wr (z + 1) hh ∧ Bw w wr) (fun i _ => 2 - (intOf i).toNat)
  case atStart => exact ⟨0, Jl.no, Nat.zero_le _, rfl, rfl, hA0, hA1, hbw0⟩
  case round =>
    obtain ⟨k, hh, hk, rfl, hhe, hz0', hz1', hbw⟩ := hrel
    have k0 : (0 : Int) ≤ (k : Int) := Int.natCast_nonneg _
    by_cases hlt : k < 2
    · have k1 : (k : Int) < 2 := by omega
      have HH := jheadof_any b1 (k * 64) k room _ (by omega) hr wr (hrow.out wr k hbw hlt)
      obtain ⟨oh, hoh⟩ : ∃ o, Hid (Jl.hed (fun c => b (64 * k + c)) k room = o) := ⟨_, rfl⟩
      rw [hoh.out] at HH
      have hnx : Hid (Jl.pick hh oh = if k + 1 = 0 then Jl.no else if k + 1 = 1 then Jl.pick Jl.no (Jl.hed b 0 room) else Jl.hold b room) := by
        show _ = _
        rw [if_neg (by omega), hhe.out, ← hoh.out]
        rcases k with _ | _ | k
        · rw [if_pos rfl, if_pos rfl]
          have e : (fun c => b (64 * 0 + c)) = b := funext fun c => by rw [Nat.mul_zero, Nat.zero_add]
          rw [e]
        · rw [if_neg (by omega), if_pos rfl, if_neg (by omega)]
          rfl
        · omega
      obtain ⟨p, hp⟩ : ∃ p, Hid (p = k * 64) := ⟨_, rfl⟩
      rw [← hp.out] at HH
      have p0 : (k : Int) * 64 = (p : Int) := by rw [hp.out]; omega
      have p1 : ((k : Int) + 1) * 64 = (p : Int) + 64 := by omega
      have p2 : (p : Int) + 64 ≤ 128 := by omega
      have p3 : (0 : Int) ≤ (p : Int) := Int.natCast_nonneg _
      have hset : Hid (∀ W h, HedAt W z Jl.no → HedAt W (z + 1) hh → Bw w W → HedAt (W.setRow (z + 1) (hcell h)) z Jl.no ∧ HedAt (W.setRow (z + 1) (hcell h)) (z + 1) h ∧ Bw w (W.setRow (z + 1) (hcell h))) := fun W h h1 h2 h3 => ⟨(setRow_other W (z + 1) z _ (by omega)).trans h1, setRow_heap W (z + 1) _ _ _ _ h2, Below.trans h3 (Bx.below (S := (· = z + 1)) ⟨rfl, rfl, rfl, by simp [World.setRow], fun k _ hk => setRow_other W (z + 1) k _ (fun e => hk e)⟩ h3.size (fun b e => by have e' : b = z + 1 := e; have := hz.out; omega))⟩
      have hfin : Hid (∀ W h, Jl.pick hh oh = h → HedAt W z Jl.no → HedAt W (z + 1) h → Bw w W → (∃ (k' : Nat) (hh : Jl.Hed), k' ≤ 2 ∧ Value.int .i64 ((k : Int) + 1) = .int .i64 (k' : Int) ∧ Hid (hh = if k' = 0 then Jl.no else if k' = 1 then Jl.pick Jl.no (Jl.hed b 0 room) else Jl.hold b room) ∧ HedAt W z Jl.no ∧ HedAt W (z + 1) hh ∧ Bw w W) ∧ 2 - (intOf (.int .i64 ((k : Int) + 1))).toNat < 2 - (intOf (.int .i64 (k : Int))).toNat) := fun W h e h1 h2 h3 => ⟨⟨k + 1, h, hlt, rfl, (by show h = _; rw [← e]; exact hnx.out), h1, h2, h3⟩, by simp only [intOf]; omega⟩
      clear hrow hA0 hA1 hbw0 hoh hhe hnx
      by_cases ht : hh.n < oh.n
      · have hp2 : Jl.pick hh oh = oh := if_pos ht
        have t1 : (hh.n : Int) < (oh.n : Int) := by omega
        clear ht
        replace hp2 := (show Hid _ from hp2)
        go_wp2_with (first
          | (go_at_call 80; refine HH.mono ?_; rintro e w1 ⟨rfl, hb1⟩; obtain ⟨W3, hW3⟩ : ∃ W, Hid (w1.alloc (.cells (hcell oh) 85) = W) := ⟨_, rfl⟩; have hb3' : Bw wr W3 := (by rw [← hW3.out]; exact Below.alloc hb1 hb1.size _); have hA3 := hz1'.keep hb3'; have hA4 := hz0'.keep hb3'; have hA5 : HedAt W3 w1.heap.size oh := (by rw [← hW3.out]; exact heap_alloc_new _ _); have hb3 : Bw w W3 := hbw.trans hb3'; have q0 := hA3.c0; have q1 := hA5.c0; have tok0 : Hid (w1 = w1) := rfl; obtain ⟨W4, hW4⟩ : ∃ W, Hid (W3.setRow (z + 1) (hcell oh) = W) := ⟨_, rfl⟩; obtain ⟨h40, h41, hb4⟩ := hset.out W3 oh hA4 hA3 hb3; rw [hW4.out] at h40 h41 hb4; have tok1 : Hid (w1 = w1) := rfl; have tok2 : Hid (w1 = w1) := rfl)
          | (clear tok0; refine wpList_store_row rfl 85 _ _ rfl w1.heap.size (hcell oh) rfl rfl 85 (hcell Jl.no) (heap_alloc_new _ _) info_head15 rfl (hcell_all _) ?_; rw [setRow_alloc_new, hW3.out])
          | (clear tok1; refine wpList_load_row rfl 85 _ rfl w1.heap.size rfl 85 (hcell oh) (0, 0) _ hA5 Try.underlying85 rfl info_head15 ?_)
          | (clear tok2; refine wpList_store_row rfl 85 _ _ rfl (z + 1) (hcell oh) rfl rfl 85 _ hA3 info_head15 rfl (hcell_all _) ?_; rw [hW4.out]))
        exact hfin.out W4 oh hp2.out h40 h41 hb4
      · have hp2 : Jl.pick hh oh = hh := if_neg ht
        have t1 : ¬ (hh.n : Int) < (oh.n : Int) := by omega
        clear ht
        replace hp2 := (show Hid _ from hp2)
        go_wp2_with (first
          | (go_at_call 80; refine HH.mono ?_; rintro e w1 ⟨rfl, hb1⟩; obtain ⟨W3, hW3⟩ : ∃ W, Hid (w1.alloc (.cells (hcell oh) 85) = W) := ⟨_, rfl⟩; have hb3' : Bw wr W3 := (by rw [← hW3.out]; exact Below.alloc hb1 hb1.size _); have hA3 := hz1'.keep hb3'; have hA4 := hz0'.keep hb3'; have hA5 : HedAt W3 w1.heap.size oh := (by rw [← hW3.out]; exact heap_alloc_new _ _); have hb3 : Bw w W3 := hbw.trans hb3'; have q0 := hA3.c0; have q1 := hA5.c0; have tok0 : Hid (w1 = w1) := rfl; skip)
          | (clear tok0; refine wpList_store_row rfl 85 _ _ rfl w1.heap.size (hcell oh) rfl rfl 85 (hcell Jl.no) (heap_alloc_new _ _) info_head15 rfl (hcell_all _) ?_; rw [setRow_alloc_new, hW3.out]))
        exact hfin.out W3 hh hp2.out hA4 hA3 hb3
    · obtain rfl : k = 2 := by omega
      have hhe2 : Hid (hh = Jl.hold b room) := hhe.out
      have hset : Hid (HedAt (wr.setRow z (hcell hh)) z hh ∧ Bw w (wr.setRow z (hcell hh))) := ⟨setRow_heap wr z _ _ _ _ hz0', Below.trans hbw (Bx.below (S := (· = z)) ⟨rfl, rfl, rfl, by simp [World.setRow], fun k _ hk => setRow_other wr z k _ (fun e => hk e)⟩ hbw.size (fun b e => by have e' : b = z := e; have := hz.out; omega))⟩
      clear hrow hA0 hA1 hbw0
      go_wp2_with (first
        | (refine wpList_load_row rfl 85 _ rfl (z + 1) rfl 85 (hcell hh) (0, 0) _ hz1' Try.underlying85 rfl info_head15 ?_)
        | (refine wpList_store_row rfl 85 _ _ rfl z (hcell hh) rfl rfl 85 _ hz0' info_head15 rfl (hcell_all _) ?_))
      refine bodyPost_ret (results_cell_row rfl _ _ z _ (hcell hh) _ _ (by rfl) hset.out.1 Try.underlying85 rfl info_head15) rfl ?_
      exact ⟨by rw [hhe2.out], hset.out.2⟩

/-- how a call ends that throws -/
def thrown15 : Ending := .panicked [{ v := .iface 28 (.int .i64 150), recovered := false }]
set_option maxHeartbeats 1000000 in
theorem jlen_short (g n c : Nat) (A : Option Addr) (w : World) (hc : w.cell? ⟨g, 0, none⟩ = some (.slice A n c)) (hn : n < 2) :
    Calls Try.prog 81 #[.pointer (some ⟨g, 0, none⟩)] w fun e w' => e = thrown15 ∧ w' = w := by
  go_enter Try.func81, Try.ntmps81
  go_wp2
  exact ⟨rfl, rfl, rfl⟩
set_option maxHeartbeats 1000000 in
theorem jlen_ok (g n c : Nat) (A : Option Addr) (f : Nat → Int) (w : World) (hc : w.cell? ⟨g, 0, none⟩ = some (.slice A n c)) (hr : RowAt w A n f) (hn : 2 ≤ n) (hn2 : n ≤ 4194304) (hcn : n ≤ c) (hle : Jl.num f 2 ≤ n - 2) :
    Calls Try.prog 81 #[.pointer (some ⟨g, 0, none⟩)] w fun e w' => e = .returned (.int .i64 (Jl.num f 2 : Int)) ∧ w' = w := by
  have hr2 : RowAt w A 2 f := by
    obtain ⟨b, o, rfl, hcc⟩ := hr.at (k := 0) (by omega)
    exact ⟨Or.inr ⟨b, o, rfl, fun i hi => hcc i (by omega)⟩, hr.2⟩
  have HN := jnumber_any A 2 c f (by omega) w hr2
  have hb := Jl.num_lt hr.2 2
  obtain ⟨m, hm⟩ : ∃ m, Hid (Jl.num f 2 = m) := ⟨_, rfl⟩
  rw [hm.out] at HN hb hle ⊢
  have m1 : m < 65536 := hb
  have l1 : ¬ (n : Int) - 2 < (m : Int) := by omega
  clear hr hr2 hb hle
  go_enter Try.func81, Try.ntmps81
  go_wp2_with (go_at_call 82; refine HN.mono ?_; rintro e w1 ⟨rfl, hw⟩; obtain rfl := hw.symm)
  go_ret
  exact ⟨rfl, rfl⟩
set_option maxHeartbeats 1000000 in
theorem jlen_bad (g n c : Nat) (A : Option Addr) (f : Nat → Int) (w : World) (hc : w.cell? ⟨g, 0, none⟩ = some (.slice A n c)) (hr : RowAt w A n f) (hn : 2 ≤ n) (hn2 : n ≤ 4194304) (hcn : n ≤ c) (hle : ¬ Jl.num f 2 ≤ n - 2) :
    Calls Try.prog 81 #[.pointer (some ⟨g, 0, none⟩)] w fun e w' => e = thrown15 ∧ w' = w := by
  have hr2 : RowAt w A 2 f := by
    obtain ⟨b, o, rfl, hcc⟩ := hr.at (k := 0) (by omega)
    exact ⟨Or.inr ⟨b, o, rfl, fun i hi => hcc i (by omega)⟩, hr.2⟩
  have HN := jnumber_any A 2 c f (by omega) w hr2
  have hb := Jl.num_lt hr.2 2
  obtain ⟨m, hm⟩ : ∃ m, Hid (Jl.num f 2 = m) := ⟨_, rfl⟩
  rw [hm.out] at HN hb hle
  have m1 : m < 65536 := hb
  have l1 : (n : Int) - 2 < (m : Int) := by omega
  clear hr hr2 hb hle
  go_enter Try.func81, Try.ntmps81
  go_wp2_with (go_at_call 82; refine HN.mono ?_; rintro e w1 ⟨rfl, hw⟩; obtain rfl := hw.symm)
  exact ⟨rfl, rfl, rfl⟩
end Go.Proofs.Ytppknadflmjefaa
