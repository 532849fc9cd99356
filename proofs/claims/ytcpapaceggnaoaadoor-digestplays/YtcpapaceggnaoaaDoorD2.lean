/- Contract of the document's own words, of layer 5. -/
import Derived.Test.YtcpapaceggnaoaaDoorD1
namespace Go.Proofs.YtcpapaceggnaoaaDoor
open Go.RowKit Go.Deep

def nbD (f : Nat → Int) : Nat → Nat := fun i => (f i).toNat
theorem nbD_lt {f : Nat → Int} (h : ∀ i, 0 ≤ f i ∧ f i < 256) (i : Nat) : nbD f i < 256 := by have := h i; unfold nbD; omega
theorem nbD_eq {f : Nat → Int} (h : ∀ i, 0 ≤ f i ∧ f i < 256) (i : Nat) : f i = ((nbD f i : Nat) : Int) := by have := h i; unfold nbD; omega

/-- the first t words in a block of 64 -/
def WordsAt (w : World) (g : Nat) (b : Nat → Nat) (t : Nat) : Prop := ∃ cur, w.heap[g]? = some (.cells cur 50 (0, 0)) ∧ cur.size = 64 ∧ cur.all (·.oneCell') = true ∧ ∀ i, i < t → cur[i]? = some (.int .u32 ((Sha.wd b i : Nat) : Int))

theorem WordsAt.keep {w w' : World} {g t : Nat} {b : Nat → Nat} (h : WordsAt w g b t) (k : Bw w w') : WordsAt w' g b t := by
  obtain ⟨cur, h1, h2⟩ := h
  exact ⟨cur, by rw [k.block g (Array.getElem?_eq_some_iff.1 h1).1, h1], h2⟩
theorem setRow_bw {w w' : World} (h : Bw w w') {g : Nat} (hg : w.heap.size ≤ g) (cs : Array Value) : Bw w (w'.setRow g cs) :=
  ⟨h.os, h.tape, h.output, by have := h.size; simp [World.setRow]; exact this, fun k hk => (setRow_other w' g k _ (by omega)).trans (h.block k hk)⟩
theorem cell_other' {w : World} {a b : Addr} {v : Value} (h : a ≠ b) : (w.setCell a v).cell? b = w.cell? b := by
  first | exact World.cell?_setCell_other h | exact World.cell?_setCell_other w h | exact World.cell?_setCell_other w a v h | exact World.cell?_setCell_other w a b v h | exact World.cell?_setCell_other _ _ _ _ h

theorem wordsat_set {w : World} {g t : Nat} {b : Nat → Nat} {z : Int} (h : WordsAt w g b t) (ht : t < 64) (e : z = ((Sha.wd b t : Nat) : Int)) : WordsAt (w.setCell ⟨g, t, none⟩ (.int .u32 z)) g b (t + 1) := by
  obtain ⟨cur, h1, h2, h3, h4⟩ := h
  refine ⟨_, heap_setCell_same w g t cur _ _ h1, by simpa using h2, ?_, fun i hi => ?_⟩
  · rw [Array.all_eq_true_iff_forall_mem] at h3 ⊢
    intro x hx
    rcases Array.mem_or_eq_of_mem_setIfInBounds hx with h | h
    · exact h3 x h
    · subst h; rfl
  · by_cases hit : i = t
    · subst hit; rw [Array.getElem?_setIfInBounds_self_of_lt (by omega), e]
    · rw [Array.getElem?_setIfInBounds_ne (Ne.symm hit), h4 i (by omega)]

theorem word_val {b : Nat → Nat} {t : Nat} (h0 : b (4 * t) < 256) (h1 : b (4 * t + 1) < 256) (h2 : b (4 * t + 2) < 256) (h3 : b (4 * t + 3) < 256) :
    bits .or .u32 (bits .or .u32 (bits .or .u32 ((b (4 * t) : Int) * 16777216) ((b (4 * t + 1) : Int) * 65536)) ((b (4 * t + 2) : Int) * 256)) (b (4 * t + 3) : Int) = ((Sha.word b t : Nat) : Int) := by
  have e0 : (b (4 * t) : Int) * 16777216 = ((b (4 * t) * 16777216 : Nat) : Int) := by omega
  have e1 : (b (4 * t + 1) : Int) * 65536 = ((b (4 * t + 1) * 65536 : Nat) : Int) := by omega
  have e2 : (b (4 * t + 2) : Int) * 256 = ((b (4 * t + 2) * 256 : Nat) : Int) := by omega
  have n1 : b (4 * t) * 16777216 ||| b (4 * t + 1) * 65536 < 4294967296 := Sha.or_lt (by omega) (by omega)
  have n2 : b (4 * t) * 16777216 ||| b (4 * t + 1) * 65536 ||| b (4 * t + 2) * 256 < 4294967296 := Sha.or_lt n1 (by omega)
  rw [e0, e1, e2, u32_or_nat _ _ (by omega) (by omega), u32_or_nat _ _ n1 (by omega), u32_or_nat _ _ n2 (by omega)]
  rfl
theorem add_val (a b : Nat) : IntKind.u32.wrap ((a : Int) + (b : Int)) = ((Sha.add a b : Nat) : Int) := by
  rw [IntKind.wrap_u32']
  unfold Sha.add
  omega

theorem turned_lit (x : Nat) (z : Int) (hx : x < 4294967296) (h1 : 1 ≤ z) (h2 : z < 32) (w : World) :
    Calls Tryd.prog 25 #[.int .u32 (x : Int), .int .i64 z] w fun e w' => ∃ q, e = .returned (.int .u32 (Sha.rot z.toNat x : Nat)) ∧ w' = w.drewN q := by
  have := turned_any x z.toNat hx (by omega) (by omega) w
  rwa [Int.toNat_of_nonneg (by omega)] at this

set_option maxRecDepth 100000 in
set_option maxHeartbeats 4000000 in
theorem words_any (A : Option Addr) (L ca : Nat) (f : Nat → Int) (hL : 64 ≤ L) (hL2 : L ≤ 140737488355328) (w : World) (hrow : RowAt w A L f) :
    Calls Tryd.prog 23 #[.slice A L ca] w fun e w' => ∃ T : Array Value, e = .returned (.agg T) ∧ T.size = 64 ∧ T.all (·.oneCell') = true ∧ (∀ t, t < 64 → T[t]? = some (.int .u32 ((Sha.wd (nbD f) t : Nat) : Int))) ∧ Bw w w' := by
  have hz := zero64
  have hnb := nbD_lt hrow.2
  have hwl := Sha.wd_lt hnb
  obtain ⟨b, off, rfl, -⟩ := hrow.at (k := 0) (by omega)
  have hbl := hrow.lt (k := 0) (by omega)
  go_enter Tryd.func23, Tryd.ntmps23
  go_wp2
  go_loopw [4] (fun i wr => ∃ t : Nat, t ≤ 64 ∧ i = .int .i64 t ∧ (∃ Z, wr.heap[w.heap.size]? = some (.cells Z 50 (0, 0)) ∧ Z.size = 64) ∧ WordsAt wr (w.heap.size + 1) (nbD f) t ∧ Bw w wr) (fun i _ => 64 - (intOf i).toNat)
  case atStart => exact ⟨0, Nat.zero_le _, rfl, ⟨_, heap_alloc2_old _ _ _, by simp [zeros64]⟩, ⟨_, heap_alloc2_new _ _ _, by simp [zeros64], by kernel_rfl, fun i hi => by omega⟩, ((Below.refl _ _).alloc (Nat.le_refl _) _).alloc (by rw [size_alloc]; omega) _⟩
  case round =>
    obtain ⟨t, ht, rfl, ⟨Z, hZ, hZs⟩, ⟨cur, hcur, hs, hall, hv⟩, hw⟩ := hrel
    by_cases hlt : t < 64
    · obtain ⟨v1, hv1⟩ : ∃ v, cur[t]? = some v := ⟨_, Array.getElem?_eq_getElem (by omega)⟩
      have hx : wr.cell? ⟨w.heap.size + 1, t, none⟩ = some v1 := (cell_of_row wr (w.heap.size + 1) t cur _ _ hcur).trans hv1
      have hf : wr.frozen? ⟨w.heap.size + 1, t, none⟩ = false := frozen_of_row wr (w.heap.size + 1) t cur _ hcur
      have t0 : (0 : Int) ≤ (t : Int) := Int.natCast_nonneg _
      have t1 : (t : Int) < 64 := by omega
      by_cases h16 : t < 16
      · have hk := hrow.keep hw
        obtain ⟨b', off', e, hc⟩ := hk.at (k := 0) (by omega)
        cases e
        have c0 := hc (4 * t) (by omega)
        have c1 := hc (4 * t + 1) (by omega)
        have c2 := hc (4 * t + 2) (by omega)
        have c3 := hc (4 * t + 3) (by omega)
        rw [nbD_eq hrow.2] at c0 c1 c2 c3
        have d0 := hnb (4 * t)
        have d1 := hnb (4 * t + 1)
        have d2 := hnb (4 * t + 2)
        have d3 := hnb (4 * t + 3)
        have t2 : (t : Int) < 16 := by omega
        have l0 : (4 : Int) * (t : Int) < (L : Int) := by omega
        have l1 : (4 : Int) * (t : Int) + 1 < (L : Int) := by omega
        have l2 : (4 : Int) * (t : Int) + 2 < (L : Int) := by omega
        have l3 : (4 : Int) * (t : Int) + 3 < (L : Int) := by omega
        have y0 : IntKind.i64.wrap (4 * (t : Int)) = 4 * (t : Int) := by rw [IntKind.wrap_i64]; omega
        have y1 : IntKind.i64.wrap (4 * (t : Int) + 1) = 4 * (t : Int) + 1 := by rw [IntKind.wrap_i64]; omega
        have y2 : IntKind.i64.wrap (4 * (t : Int) + 2) = 4 * (t : Int) + 2 := by rw [IntKind.wrap_i64]; omega
        have y3 : IntKind.i64.wrap (4 * (t : Int) + 3) = 4 * (t : Int) + 3 := by rw [IntKind.wrap_i64]; omega
        have z0 : (0 : Int) ≤ 4 * (t : Int) := by omega
        have z1 : (0 : Int) ≤ 4 * (t : Int) + 1 := by omega
        have z2 : (0 : Int) ≤ 4 * (t : Int) + 2 := by omega
        have z3 : (0 : Int) ≤ 4 * (t : Int) + 3 := by omega
        have g0 : (4 * (t : Int)).toNat = 4 * t := by omega
        have g1 : (4 * (t : Int) + 1).toNat = 4 * t + 1 := by omega
        have g2 : (4 * (t : Int) + 2).toNat = 4 * t + 2 := by omega
        have g3 : (4 * (t : Int) + 3).toNat = 4 * t + 3 := by omega
        have hne : ¬ b = w.heap.size + 1 := by omega
        have hne2 : ¬ w.heap.size + 1 = b := by omega
        have hv' : Hid (∀ i, i < t → cur[i]? = some (.int .u32 ((Sha.wd (nbD f) i : Nat) : Int))) := hv
        have v0 : IntKind.u32.wrap ((nbD f (4 * t) : Nat) : Int) = ((nbD f (4 * t) : Nat) : Int) := by rw [IntKind.wrap_u32']; omega
        have v1 : IntKind.u32.wrap ((nbD f (4 * t + 1) : Nat) : Int) = ((nbD f (4 * t + 1) : Nat) : Int) := by rw [IntKind.wrap_u32']; omega
        have v2 : IntKind.u32.wrap ((nbD f (4 * t + 2) : Nat) : Int) = ((nbD f (4 * t + 2) : Nat) : Int) := by rw [IntKind.wrap_u32']; omega
        have v3 : IntKind.u32.wrap ((nbD f (4 * t + 3) : Nat) : Int) = ((nbD f (4 * t + 3) : Nat) : Int) := by rw [IntKind.wrap_u32']; omega
        have p0 : IntKind.u32.wrap (((nbD f (4 * t) : Nat) : Int) * 16777216) = ((nbD f (4 * t) * 16777216 : Nat) : Int) := by rw [IntKind.wrap_u32']; omega
        have p1 : IntKind.u32.wrap (((nbD f (4 * t + 1) : Nat) : Int) * 65536) = ((nbD f (4 * t + 1) * 65536 : Nat) : Int) := by rw [IntKind.wrap_u32']; omega
        have p2 : IntKind.u32.wrap (((nbD f (4 * t + 2) : Nat) : Int) * 256) = ((nbD f (4 * t + 2) * 256 : Nat) : Int) := by rw [IntKind.wrap_u32']; omega
        have hval : Hid (bits .or .u32 (bits .or .u32 (bits .or .u32 (((nbD f (4 * t) : Nat) : Int) * 16777216) (((nbD f (4 * t + 1) : Nat) : Int) * 65536)) (((nbD f (4 * t + 2) : Nat) : Int) * 256)) ((nbD f (4 * t + 3) : Nat) : Int) = ((Sha.word (nbD f) t : Nat) : Int)) := word_val d0 d1 d2 d3
        clear hc hv hz
        go_wp2
        go_region_held3 (fun w' => w'.cell? ⟨b, off + 4 * t, none⟩ = some (.int .u8 ((nbD f (4 * t) : Nat) : Int)) ∧ w'.cell? ⟨b, off + (4 * t + 1), none⟩ = some (.int .u8 ((nbD f (4 * t + 1) : Nat) : Int)) ∧ w'.cell? ⟨b, off + (4 * t + 2), none⟩ = some (.int .u8 ((nbD f (4 * t + 2) : Nat) : Int)) ∧ w'.cell? ⟨b, off + (4 * t + 3), none⟩ = some (.int .u8 ((nbD f (4 * t + 3) : Nat) : Int)))
          (first | go_keep) (fail)
        go_wp2
        go_roundw
        case rel => exact ⟨t + 1, by omega, by go_num, ⟨Z, (heap_setCell_other wr _ _ _ (by simp only; omega)).trans hZ, hZs⟩, wordsat_set ⟨cur, hcur, hs, hall, hv'.out⟩ hlt (by rw [Sha.wd_lo _ h16]; exact hval.out), (Bw.put hw (by omega) _ _).drew⟩
        case measure => simp [intOf]; omega
      · have i15 : (t : Int) - 15 < 64 := by omega
        have u16 : Hid (Sha.wd (nbD f) t = Sha.add (Sha.add (Sha.add (Sha.wd (nbD f) (t - 16)) (Sha.sg0 (Sha.wd (nbD f) (t - 15)))) (Sha.wd (nbD f) (t - 7))) (Sha.sg1 (Sha.wd (nbD f) (t - 2)))) := Sha.wd_hi _ (by omega)
        have j16 : (0 : Int) ≤ (t : Int) - 16 := by omega
        have j15 : (0 : Int) ≤ (t : Int) - 15 := by omega
        have j7 : (0 : Int) ≤ (t : Int) - 7 := by omega
        have j2 : (0 : Int) ≤ (t : Int) - 2 := by omega
        have g16 : ((t : Int) - 16).toNat = t - 16 := by omega
        have g15 : ((t : Int) - 15).toNat = t - 15 := by omega
        have g7 : ((t : Int) - 7).toNat = t - 7 := by omega
        have g2 : ((t : Int) - 2).toNat = t - 2 := by omega
        have k16 : (t : Int) - 16 < 64 := by omega
        have k7 : (t : Int) - 7 < 64 := by omega
        have k2 : (t : Int) - 2 < 64 := by omega
        have m16 : ¬ (t : Int) < 16 := by omega
        have c16 : wr.cell? ⟨w.heap.size + 1, t - 16, none⟩ = some (.int .u32 ((Sha.wd (nbD f) (t - 16) : Nat) : Int)) := (cell_of_row wr (w.heap.size + 1) (t - 16) cur _ _ hcur).trans (hv _ (by omega))
        have c15 : wr.cell? ⟨w.heap.size + 1, t - 15, none⟩ = some (.int .u32 ((Sha.wd (nbD f) (t - 15) : Nat) : Int)) := (cell_of_row wr (w.heap.size + 1) (t - 15) cur _ _ hcur).trans (hv _ (by omega))
        have c7 : wr.cell? ⟨w.heap.size + 1, t - 7, none⟩ = some (.int .u32 ((Sha.wd (nbD f) (t - 7) : Nat) : Int)) := (cell_of_row wr (w.heap.size + 1) (t - 7) cur _ _ hcur).trans (hv _ (by omega))
        have c2 : wr.cell? ⟨w.heap.size + 1, t - 2, none⟩ = some (.int .u32 ((Sha.wd (nbD f) (t - 2) : Nat) : Int)) := (cell_of_row wr (w.heap.size + 1) (t - 2) cur _ _ hcur).trans (hv _ (by omega))
        have l16 := hwl (t - 16)
        have l15 := hwl (t - 15)
        have l7 := hwl (t - 7)
        have l2 := hwl (t - 2)
        have hv' : Hid (∀ i, i < t → cur[i]? = some (.int .u32 ((Sha.wd (nbD f) i : Nat) : Int))) := hv
        clear hv hz
        generalize Sha.wd (nbD f) (t - 16) = x16 at *
        generalize Sha.wd (nbD f) (t - 15) = x15 at *
        generalize Sha.wd (nbD f) (t - 7) = x7 at *
        generalize Sha.wd (nbD f) (t - 2) = x2 at *
        have s0 := u32_xor_nat _ _ (Sha.rot_lt 7 l15) (Sha.rot_lt 18 l15)
        have s0' : bits .xor .u32 ((Sha.rot 7 x15 ^^^ Sha.rot 18 x15 : Nat) : Int) ((x15 : Int) / 8) = ((Sha.sg0 x15 : Nat) : Int) := u32_xor_nat _ (x15 / 8) (Sha.xor_lt (Sha.rot_lt 7 l15) (Sha.rot_lt 18 l15)) (by omega)
        have s1 := u32_xor_nat _ _ (Sha.rot_lt 17 l2) (Sha.rot_lt 19 l2)
        have s1' : bits .xor .u32 ((Sha.rot 17 x2 ^^^ Sha.rot 19 x2 : Nat) : Int) ((x2 : Int) / 1024) = ((Sha.sg1 x2 : Nat) : Int) := u32_xor_nat _ (x2 / 1024) (Sha.xor_lt (Sha.rot_lt 17 l2) (Sha.rot_lt 19 l2)) (by omega)
        go_wp2_with (go_at_call 25; refine (turned_lit _ _ ‹_› (by omega) (by omega) _).mono ?_; rintro e w' ⟨q, rfl, hw'⟩; subst w')
        have y16 : IntKind.i64.wrap ((t : Int) - 16) = (t : Int) - 16 := by rw [IntKind.wrap_i64]; omega
        have y7 : IntKind.i64.wrap ((t : Int) - 7) = (t : Int) - 7 := by rw [IntKind.wrap_i64]; omega
        have a1 := add_val x16 (Sha.sg0 x15)
        have a2 := add_val (Sha.add x16 (Sha.sg0 x15)) x7
        have a3 := add_val (Sha.add (Sha.add x16 (Sha.sg0 x15)) x7) (Sha.sg1 x2)
        have r16 : (16 : Int) ≤ (t : Int) := by omega
        have r7 : (7 : Int) ≤ (t : Int) := by omega
        have r71 : (t : Int) < 71 := by omega
        have r80 : (t : Int) < 80 := by omega
        have t16 : ¬ t - 16 = t := by omega
        have t7 : ¬ t - 7 = t := by omega
        have t16' : ¬ t = t - 16 := by omega
        have t7' : ¬ t = t - 7 := by omega
        go_region_held3 (fun w' => w'.cell? ⟨w.heap.size + 1, t - 16, none⟩ = some (.int .u32 (x16 : Int)) ∧ w'.cell? ⟨w.heap.size + 1, t - 7, none⟩ = some (.int .u32 (x7 : Int)))
          (first | go_keep | (go_split_ands; exact ⟨(cell_other' (fun e => by simp only [Addr.mk.injEq] at e; omega)).trans (by assumption), (cell_other' (fun e => by simp only [Addr.mk.injEq] at e; omega)).trans (by assumption)⟩)) (fail)
        go_wp2
        go_roundw
        case rel => exact ⟨t + 1, by omega, by go_num, ⟨Z, (heap_setCell_other _ _ _ _ (by simp only; omega)).trans (((Bw.drewN wr _).block _ (Array.getElem?_eq_some_iff.1 hZ).1).trans hZ), hZs⟩, wordsat_set (WordsAt.keep ⟨cur, hcur, hs, hall, hv'.out⟩ (Bw.drewN wr _)) hlt (by rw [u16.out]), Bw.put (hw.trans (Bw.drewN _ _)) (by omega) _ _⟩
        case measure => simp [intOf]; omega
    · have e8 : t = 64 := by omega
      subst e8
      have hi : (Tryd.prog.info? 50).map (·.size) = some cur.size := by rw [hs]; kernel_rfl
      have hv' : Hid (∀ i, i < 64 → cur[i]? = some (.int .u32 ((Sha.wd (nbD f) i : Nat) : Int))) := hv
      clear hv hz hwl hnb
      go_wp2_with (first | refine wpList_load_row rfl 50 _ rfl (w.heap.size + 1) rfl 50 cur (0, 0) _ hcur Tryd.underlying50 rfl hi ?_ | refine wpList_store_row rfl 50 _ _ rfl w.heap.size cur rfl rfl 50 Z hZ hi (hZs.trans hs.symm) hall ?_)
      exact bodyPost_ret (results_cell_row Tryd.results23 _ _ w.heap.size 50 cur (0, 0) _ rfl (setRow_heap wr w.heap.size Z _ _ _ hZ) Tryd.underlying50 rfl hi) rfl ⟨cur, rfl, hs, hall, hv'.out, setRow_bw hw (Nat.le_refl _) _⟩
end Go.Proofs.YtcpapaceggnaoaaDoor
