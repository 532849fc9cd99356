/- The statements' helpers of layer 11's examples (written by mkyt.py). -/
import Derived.Test.YtjifdoneejofiabUD
import Derived.Test.YtjifdoneejofiabYF
import Derived.Test.YtjifdoneejofiabYC
import Derived.Test.YtjifdoneejofiabYM
namespace Go.Proofs.Ytjifdoneejofiab
set_option linter.unusedVariables false
set_option linter.unusedSimpArgs false

namespace Tr
def lk (i : Nat) : B := 108 :: (List.replicate (i / 26) 122 ++ [UInt8.ofNat (97 + i % 26)])
def softI (p q : B) : It := ⟨p, 4, 0, 0, [], q⟩
def fileI (p : B) : It := ⟨p, 1, 0, 0, [], []⟩
def foldI (p : B) : It := ⟨p, 2, 0, 0, [], []⟩
def chI (n : Nat) : List It := (List.range n).map (fun i => softI (lk i) (if i + 1 = n then [120] else lk (i + 1))) ++ [fileI [120]]
theorem ch_at {n k : Nat} (h : k < n) : (chI n)[k]? = some (softI (lk k) (if k + 1 = n then [120] else lk (k + 1))) := by
  unfold chI
  rw [List.getElem?_append_left (by rw [List.length_map, List.length_range]; exact h), List.getElem?_map, List.getElem?_range h]; rfl
theorem ch_last (n : Nat) : (chI n)[n]? = some (fileI [120]) := by
  unfold chI
  rw [List.getElem?_append_right (by rw [List.length_map, List.length_range]; exact Nat.le_refl _), List.length_map, List.length_range, Nat.sub_self]; rfl
theorem ch40_chk : chkE (chI 40) = (0, 0) := by decide +kernel
theorem ch41_chk : chkE (chI 41) = (0, 0) := by decide +kernel
def okk (t : List It) (k : Nat) : Bool := decide (find t (Nm.joined ([] ++ [lk k])) = some k) && decide (pts (Nm.lead (lk k) (lk (k + 1))).1 ++ [] = [lk (k + 1)])
theorem ch40_ok : (List.range 39).all (okk (chI 40)) = true := by decide +kernel
theorem ch41_ok : (List.range 40).all (okk (chI 41)) = true := by decide +kernel
theorem ch_run {n : Nat} {m : Nat} (hm : m < n) (h40 : m ≤ 40) (h : (List.range m).all (okk (chI n)) = true) : ∀ k, k ≤ m → realF (chI n) 0 [] [lk 0] = realF (chI n) k [] [lk k]
  | 0, _ => rfl
  | k + 1, hk => by
    rw [ch_run hm h40 h k (by omega)]
    have hf := List.all_eq_true.1 h k (List.mem_range.2 (by omega))
    unfold okk at hf
    rw [Bool.and_eq_true, decide_eq_true_eq, decide_eq_true_eq] at hf
    have hx := ch_at (n := n) (k := k) (by omega)
    rw [if_neg (by omega)] at hx
    rw [real_soft hf.1 hx rfl (by omega)]
    show realF _ _ _ (pts (Nm.lead (lk k) (lk (k + 1))).1 ++ []) = _
    rw [hf.2]
theorem real_ch {n : Nat} (hc : chkE (chI n) = (0, 0)) : realE (chI n) [108, 97] = realF (chI n) 0 [] [lk 0] := by
  unfold realE
  rw [hc, if_neg (by decide), if_neg (by decide), if_neg (by decide +kernel)]
  rw [show Nm.pieces [108, 97] = [lk 0] by decide +kernel]
theorem ch40_real : realE (chI 40) [108, 97] = ([120], 0) := by
  rw [real_ch ch40_chk, ch_run (n := 40) (m := 39) (by decide) (by decide) ch40_ok 39 (Nat.le_refl _)]
  have hx := ch_at (n := 40) (k := 39) (by decide)
  rw [if_pos rfl] at hx
  rw [real_soft (i := 39) (by decide +kernel) hx rfl (by decide)]
  rw [show pts (Nm.lead (softI (lk 39) [120]).path (softI (lk 39) [120]).to).1 ++ [] = [[120]] by decide +kernel]
  rw [real_step (i := 40) (by decide +kernel) (ch_last 40) (by decide), show pts (endOf (fileI [120])) = [[120]] by decide +kernel, real_nil]
  rfl
theorem ch41_real : realE (chI 41) [108, 97] = ([], 114) := by
  rw [real_ch ch41_chk, ch_run (n := 41) (m := 40) (by decide) (by decide) ch41_ok 40 (Nat.le_refl _)]
  have hx := ch_at (n := 41) (k := 40) (by decide)
  exact real_loop (i := 40) (by decide +kernel) hx rfl (by decide)
def lpI : List It := [softI [108] [108]]
theorem lp_run : ∀ k, k ≤ 40 → realF lpI 0 [] [[108]] = realF lpI k [] [[108]]
  | 0, _ => rfl
  | k + 1, hk => by
    rw [lp_run k (by omega), real_soft (t := lpI) (i := 0) (x := softI [108] [108]) (by decide +kernel) rfl rfl (by omega)]
    rw [show pts (Nm.lead (softI [108] [108]).path (softI [108] [108]).to).1 ++ [] = [[108]] by decide +kernel]
theorem lp_real : realE lpI [108] = ([], 114) := by
  unfold realE
  rw [show chkE lpI = (0, 0) by decide +kernel, if_neg (by decide), if_neg (by decide), if_neg (by decide +kernel)]
  rw [show Nm.pieces [108] = [[108]] by decide +kernel, lp_run 40 (Nat.le_refl _)]
  exact real_loop (i := 0) (x := softI [108] [108]) (by decide +kernel) rfl rfl (by decide)
theorem sm_real0 : realE smI [97, 47, 104] = ([97, 47, 102], 0) := by
  unfold realE
  rw [sm_chk, if_neg (by decide), if_neg (by decide), if_neg (by decide +kernel)]
  rw [show Nm.pieces [97, 47, 104] = [[97], [104]] by decide +kernel]
  rw [real_step (i := 0) (x := s0) (by decide +kernel) rfl (by decide), show pts (endOf s0) = [[97]] by decide +kernel]
  rw [real_step (i := 2) (x := s2) (by decide +kernel) rfl (by decide), show pts (endOf s2) = [[97], [102]] by decide +kernel]
  rw [real_nil]; rfl
theorem sm_real1 : realE smI [108] = ([97], 0) := by
  unfold realE
  rw [sm_chk, if_neg (by decide), if_neg (by decide), if_neg (by decide +kernel)]
  rw [show Nm.pieces [108] = [[108]] by decide +kernel]
  rw [real_soft (i := 4) (x := s4) (by decide +kernel) rfl rfl (by decide), show pts (Nm.lead s4.path s4.to).1 ++ [] = [[97]] by decide +kernel]
  rw [real_step (i := 0) (x := s0) (by decide +kernel) rfl (by decide), show pts (endOf s0) = [[97]] by decide +kernel]
  rw [real_nil]; rfl
theorem sm_real2 : realE smI [] = ([], 0) := by
  unfold realE
  rw [sm_chk, if_neg (by decide), if_pos rfl]
theorem sm_real3 : realE smI [97, 47, 102, 47, 120] = ([], 4) := by
  unfold realE
  rw [sm_chk, if_neg (by decide), if_neg (by decide), if_neg (by decide +kernel)]
  rw [show Nm.pieces [97, 47, 102, 47, 120] = [[97], [102], [120]] by decide +kernel]
  rw [real_step (i := 0) (x := s0) (by decide +kernel) rfl (by decide), show pts (endOf s0) = [[97]] by decide +kernel]
  rw [real_step (i := 1) (x := s1) (by decide +kernel) rfl (by decide), show pts (endOf s1) = [[97], [102]] by decide +kernel]
  exact real_none (by decide +kernel)
theorem sm_real4 : realE smI [120] = ([], 4) := by
  unfold realE
  rw [sm_chk, if_neg (by decide), if_neg (by decide), if_neg (by decide +kernel)]
  rw [show Nm.pieces [120] = [[120]] by decide +kernel]
  exact real_none (by decide +kernel)
theorem sm_real5 : realE smI [108, 47, 108] = ([], 4) := by
  unfold realE
  rw [sm_chk, if_neg (by decide), if_neg (by decide), if_neg (by decide +kernel)]
  rw [show Nm.pieces [108, 47, 108] = [[108], [108]] by decide +kernel]
  rw [real_soft (i := 4) (x := s4) (by decide +kernel) rfl rfl (by decide), show pts (Nm.lead s4.path s4.to).1 ++ [[108]] = [[97], [108]] by decide +kernel]
  rw [real_step (i := 0) (x := s0) (by decide +kernel) rfl (by decide), show pts (endOf s0) = [[97]] by decide +kernel]
  exact real_none (by decide +kernel)
theorem kn_f1 : chkE [fileI [97, 47, 102], foldI [97]] = (0, 112) := by decide +kernel
theorem kn_f2 : chkE [foldI [97], foldI [97]] = (1, 111) := by decide +kernel
theorem kn_f3 : chkE [s0, s1, s2, ⟨[97, 47, 105], 3, 0, 0, [], [97, 47, 104]⟩] = (3, 113) := by decide +kernel
theorem kn_m1 : mayE (softI [108] [46, 46, 47, 120]) = 83 := by decide +kernel
theorem kn_m2 : mayE ⟨[97], 2, 0, 0, [], [98]⟩ = 110 := by decide +kernel
theorem kn_m3 : mayE ⟨[97], 0, 0, 0, [], []⟩ = 1 := by decide +kernel
theorem kn_w1 : withE smI (fileI [97]) = 112 := by decide +kernel
theorem kn_w2 : withE smI (fileI [98]) = 0 := by decide +kernel
theorem kn_w3 : withL smI (fileI [98]) = [s0, s1, s2, s3, fileI [98], s4] := by
  unfold withL
  rw [show cnt smI (fileI [98]).path = 4 by decide +kernel, show there smI (fileI [98]).path = false by decide +kernel]
  rfl
theorem kn_o1 : woutE smI [97, 47, 102] = 113 := by decide +kernel
theorem kn_o2 : woutE smI [97] = 0 := by decide +kernel
theorem kn_o3 : smI.filter (wout [97]) = [s4] := by
  have h0 : wout [97] s0 = false := by decide +kernel
  have h1 : wout [97] s1 = false := by decide +kernel
  have h2 : wout [97] s2 = false := by decide +kernel
  have h3 : wout [97] s3 = false := by decide +kernel
  have h4 : wout [97] s4 = true := by decide +kernel
  unfold smI
  simp only [List.filter_cons, h0, h1, h2, h3, h4, List.filter_nil, if_true]
  rfl
theorem kn_o4 : woutE smI [97, 47, 104] = 0 := by decide +kernel
theorem kn_o5 : (smI.filter (wout [97, 47, 104])).length = 4 := by decide +kernel
theorem kn_s : Ss.Stable cmpT [fileI [97], foldI [97], foldI [65]] [foldI [65], fileI [97], foldI [97]] := by
  have h1 := Ss.stable_snoc cmpT_ok (o1 := []) (o2 := []) (x := fileI [97]) (Ss.stable_nil cmpT) (fun z hz => by simp at hz) (.inl rfl)
  have h2 := Ss.stable_snoc cmpT_ok (t := [fileI [97]]) (o1 := [fileI [97]]) (o2 := []) (x := foldI [97]) h1 (fun z hz => by simp at hz) (.inr ⟨fileI [97], rfl, by decide +kernel⟩)
  exact Ss.stable_snoc cmpT_ok (t := [fileI [97], foldI [97]]) (o1 := []) (o2 := [fileI [97], foldI [97]]) (x := foldI [65]) h2 (fun z hz => by
    simp only [List.mem_cons, List.not_mem_nil, or_false] at hz
    rcases hz with rfl | rfl <;> decide +kernel) (.inl rfl)
end Tr
end Go.Proofs.Ytjifdoneejofiab
namespace Go.Proofs.Ytjifdoneejofiab
open Go.RowKit Go.Deep
set_option linter.unusedVariables false
set_option linter.unusedSimpArgs false

/-- an item without a Body -/
def Tr.nI (x : Tr.It) : Tr.Iv := ⟨x, none, 0⟩
theorem bare (w : World) (x : Tr.It) (hb : x.body = []) (hf : Tr.Fit x) : BodyAt w (Tr.nI x) :=
  ⟨⟨.inl (by show x.body.length = 0; rw [hb]; rfl), Tr.rowF_bd _⟩, by show x.body.length ≤ 0; rw [hb]; exact Nat.le_refl _, fun _ => rfl, hf⟩
set_option maxRecDepth 100000 in
theorem folder11_any (p : Tr.B) (w : World) : Calls Try.prog 22 #[.string (Nm.S p)] w fun e w' => e = .returned (.agg (Tr.nI (Tr.foldI p)).arr) ∧ Bw w w' := by
  have hb : Try.prog.built 26 [(0, .string (Nm.S p)), (1, .int .u8 2)] = some (Tr.nI (Tr.foldI p)).arr := by kernel_rfl
  go_enter Try.func22, Try.ntmps22
  go_wp2_with (first
    | refine wpList_built11 rfl 26 _ rfl _ hb ?_
    | (refine wpList_store_row rfl 26 _ _ rfl w.heap.size (Tr.nI (Tr.foldI p)).arr rfl rfl 26 _ (heap_alloc_new _ _) (info_it _) rfl (Tr.arr_one _) ?_; rw [setRow_alloc_new]))
  (try simp only [Exit.inBlock, Exit.then])
  exact bodyPost_ret (results_cell_row Try.results22 _ _ w.heap.size 26 (Tr.nI (Tr.foldI p)).arr (0, 0) _ rfl (heap_alloc_new _ _) Try.underlying26 rfl (info_it _)) rfl ⟨rfl, bw_alloc11 (Bw.refl _) _⟩
set_option maxRecDepth 100000 in
theorem file11_any (p : Tr.B) (w : World) : Calls Try.prog 21 #[.string (Nm.S p)] w fun e w' => e = .returned (.agg (Tr.nI (Tr.fileI p)).arr) ∧ Bw w w' := by
  have hb : Try.prog.built 26 [(0, .string (Nm.S p)), (1, .int .u8 1)] = some (Tr.nI (Tr.fileI p)).arr := by kernel_rfl
  go_enter Try.func21, Try.ntmps21
  go_wp2_with (first
    | refine wpList_built11 rfl 26 _ rfl _ hb ?_
    | (refine wpList_store_row rfl 26 _ _ rfl w.heap.size (Tr.nI (Tr.fileI p)).arr rfl rfl 26 _ (heap_alloc_new _ _) (info_it _) rfl (Tr.arr_one _) ?_; rw [setRow_alloc_new]))
  (try simp only [Exit.inBlock, Exit.then])
  exact bodyPost_ret (results_cell_row Try.results21 _ _ w.heap.size 26 (Tr.nI (Tr.fileI p)).arr (0, 0) _ rfl (heap_alloc_new _ _) Try.underlying26 rfl (info_it _)) rfl ⟨rfl, bw_alloc11 (Bw.refl _) _⟩
theorem wpList_build1 {ops : Array Oper} {rest : List Oper} {o : Oper} {a : Act} {w : World} {Q : Exit → Act → World → Prop} (hgd : Region.wanted o (yielded ops a.tmps) = true) (p0 : Operand) (ho : o.op = .buildSlice 22 1 #[(0, p0)])
    (y0 : Tr.Iv) (h0 : a.eval p0 = .agg y0.arr)
    (h : wpList Try.prog ops Q rest (a.put o.dst (.slice (some ⟨w.heap.size, 0, none⟩) 1 1)) (w.alloc (.cells (Tr.cellsI [y0]).toArray 26))) : wpList Try.prog ops Q (o :: rest) a w := by
  obtain ⟨i0, hi0, hz0, hz1, hz2⟩ := info_parts info_item
  refine wpList_step fun K hK => ?_
  rw [if_pos hgd]
  refine wp_buildSlice 22 26 1 _ ho _ i0 _ Try.underlying22 hi0 hz0 (by rw [hz1]; omega) (by rw [hz1]; omega) ?_ (hK _ _ h)
  rw [hz1]
  simp only [Array.toList_map, List.map_cons, List.map_nil, h0]
  kernel_rfl
theorem wpList_build2 {ops : Array Oper} {rest : List Oper} {o : Oper} {a : Act} {w : World} {Q : Exit → Act → World → Prop} (hgd : Region.wanted o (yielded ops a.tmps) = true) (p0 p1 : Operand) (ho : o.op = .buildSlice 22 2 #[(0, p0), (1, p1)])
    (y0 y1 : Tr.Iv) (h0 : a.eval p0 = .agg y0.arr) (h1 : a.eval p1 = .agg y1.arr)
    (h : wpList Try.prog ops Q rest (a.put o.dst (.slice (some ⟨w.heap.size, 0, none⟩) 2 2)) (w.alloc (.cells (Tr.cellsI [y0, y1]).toArray 26))) : wpList Try.prog ops Q (o :: rest) a w := by
  obtain ⟨i0, hi0, hz0, hz1, hz2⟩ := info_parts info_item
  refine wpList_step fun K hK => ?_
  rw [if_pos hgd]
  refine wp_buildSlice 22 26 2 _ ho _ i0 _ Try.underlying22 hi0 hz0 (by rw [hz1]; omega) (by rw [hz1]; omega) ?_ (hK _ _ h)
  rw [hz1]
  simp only [Array.toList_map, List.map_cons, List.map_nil, h0, h1]
  kernel_rfl
theorem wpList_build3 {ops : Array Oper} {rest : List Oper} {o : Oper} {a : Act} {w : World} {Q : Exit → Act → World → Prop} (hgd : Region.wanted o (yielded ops a.tmps) = true) (p0 p1 p2 : Operand) (ho : o.op = .buildSlice 22 3 #[(0, p0), (1, p1), (2, p2)])
    (y0 y1 y2 : Tr.Iv) (h0 : a.eval p0 = .agg y0.arr) (h1 : a.eval p1 = .agg y1.arr) (h2 : a.eval p2 = .agg y2.arr)
    (h : wpList Try.prog ops Q rest (a.put o.dst (.slice (some ⟨w.heap.size, 0, none⟩) 3 3)) (w.alloc (.cells (Tr.cellsI [y0, y1, y2]).toArray 26))) : wpList Try.prog ops Q (o :: rest) a w := by
  obtain ⟨i0, hi0, hz0, hz1, hz2⟩ := info_parts info_item
  refine wpList_step fun K hK => ?_
  rw [if_pos hgd]
  refine wp_buildSlice 22 26 3 _ ho _ i0 _ Try.underlying22 hi0 hz0 (by rw [hz1]; omega) (by rw [hz1]; omega) ?_ (hK _ _ h)
  rw [hz1]
  simp only [Array.toList_map, List.map_cons, List.map_nil, h0, h1, h2]
  kernel_rfl
theorem wpList_oneB {ops : Array Oper} {rest : List Oper} {o : Oper} {a : Act} {w : World} {Q : Exit → Act → World → Prop} (hgd : o.guard = none) (x : Operand) (ho : o.op = .buildSlice 24 1 #[(0, x)]) (c : Int) (hx : a.eval x = .int .u8 c)
    (h : wpList Try.prog ops Q rest (a.put o.dst (.slice (some ⟨w.heap.size, 0, none⟩) 1 1)) (w.alloc (.cells #[.int .u8 c] 5))) : wpList Try.prog ops Q (o :: rest) a w := by
  obtain ⟨i0, hi0, hz0, hz1, hz2⟩ := info_parts info_u8
  refine wpList_buildSlice hgd 24 5 1 _ ho _ i0 _ Try.underlying24 hi0 hz0 (by rw [hz1]; omega) (by rw [hz1]; omega) ?_ h
  rw [hz1]
  simp only [Array.toList_map, List.map_cons, List.map_nil, hx]
  kernel_rfl
theorem its_built {W : World} {L : List Tr.Iv} (hb : ∀ y ∈ L, ∀ u : World, BodyAt u y) : ItsAt (W.alloc (.cells (Tr.cellsI L).toArray 26)) (some ⟨W.heap.size, 0, none⟩) L := its_alloc fun y hy => hb y hy _
set_option maxRecDepth 100000 in
theorem fails_any (A : Option Addr) (cap : Nat) (L : List Tr.Iv) (pl : Nat) (er : Int) (hn : L.length ≤ 1000) (hcap : L.length ≤ cap) (h : Tr.chkE (Tr.its L) = (pl, er)) (w : World) (ha : ItsAt w A L) :
    Calls Try.prog 20 #[.slice A L.length cap, .int .i64 (pl : Int), .int .i64 er] w fun e w' => e = .returned (.bool true) ∧ Bw w w' := by
  have HC : Hid (Calls Try.prog 9 #[.slice A L.length cap] w fun e w' => e = .returned (.tuple #[.int .i64 (pl : Int), .int .i64 er]) ∧ Bw w w') := by
    have := tcheck_any A cap L (by omega) hcap w ha
    rwa [h] at this
  clear ha h
  generalize L.length = n at *
  have e1 : ((pl : Int) == (pl : Int)) = true := by simp
  have e2 : (er == er) = true := by simp
  go_enter Try.func20, Try.ntmps20
  go_wp2_with (go_at_call 9; refine HC.out.mono ?_; rintro e w1 ⟨rfl, hw1⟩)
  go_ret
  exact ⟨rfl, hw1⟩
set_option maxRecDepth 100000 in
set_option maxHeartbeats 1000000 in
theorem link11_any (i : Nat) (hi : i ≤ 1000) (w : World) : Calls Try.prog 46 #[.int .i64 (i : Int)] w fun e w' => e = .returned (.string (Nm.S (Tr.lk i))) ∧ Bw w w' := by
  go_enter Try.func46, Try.ntmps46
  go_wp2
  go_loop [0, 3] (fun s0 s3 => ∃ k j : Nat, s0 = .int .i64 (j : Int) ∧ Hid (26 * k + j = i) ∧ j ≤ 1000 ∧ k ≤ 1000 ∧ s3 = .string (Nm.S (108 :: List.replicate k 122))) (fun s0 _ => (intOf s0).toNat)
  case atStart => exact ⟨0, i, rfl, by show _ = _; omega, hi, by omega, rfl⟩
  case round =>
    obtain ⟨k, j, rfl, hkj, hj, hk, rfl⟩ := hrel
    have hz : (Nm.S (108 :: List.replicate k 122)).size = k + 1 := by rw [Nm.size_S, List.length_cons, List.length_replicate]
    by_cases hlt : 26 ≤ j
    · have h1 : (26 : Int) ≤ (j : Int) := by omega
      have hcat : Nm.S (108 :: List.replicate k 122) ++ ⟨#[122]⟩ = Nm.S (108 :: List.replicate (k + 1) 122) := by
        rw [show (⟨#[122]⟩ : ByteArray) = Nm.S [122] from rfl, Nm.append_S]; congr 1
        rw [List.replicate_succ']; rfl
      have b1 : ¬ 9223372036854775807 < (Nm.S (108 :: List.replicate k 122)).size + 1 := by rw [hz]; omega
      clear hz
      obtain ⟨X, hX⟩ : ∃ X, Hid (Nm.S (108 :: List.replicate k 122) = X) := ⟨_, rfl⟩
      rw [hX.out] at hcat b1 ⊢
      have HC : Hid (X ++ ⟨#[122]⟩ = Nm.S (108 :: List.replicate (k + 1) 122)) := hcat
      clear hcat
      go_wp2
      go_round
      case rel => exact ⟨k + 1, j - 26, by congr 1; omega, by show _ = _; have := hkj.out; omega, by omega, by have := hkj.out; omega, by rw [HC.out]⟩
      case measure => simp [intOf]; omega
    · have h1 : ¬ (26 : Int) ≤ (j : Int) := by omega
      obtain ⟨c, hc⟩ : ∃ c : Nat, Hid (97 + j = c) := ⟨_, rfl⟩
      have hc2 : (97 : Int) + (j : Int) = (c : Int) := by have := hc.out; omega
      have hcb : c < 256 := by have := hc.out; omega
      have hcat : Nm.S (108 :: List.replicate k 122) ++ Nm.S [UInt8.ofNat c] = Nm.S (Tr.lk i) := by
        rw [Nm.append_S]; congr 1
        unfold Tr.lk
        have h3 : i / 26 = k := by have := hkj.out; omega
        have h4 : 97 + i % 26 = c := by have := hkj.out; have := hc.out; omega
        rw [h3, h4]; rfl
      have b1 : ¬ 9223372036854775807 < (Nm.S (108 :: List.replicate k 122)).size + (Nm.S [UInt8.ofNat c]).size := by rw [hz, Nm.size_S]; simp; omega
      obtain ⟨W, hW⟩ : ∃ V, V = w.alloc (.cells #[.int .u8 (c : Int)] 5) := ⟨_, rfl⟩
      have hbw : Bw w W := by rw [hW]; exact bw_alloc11 (Bw.refl _) _
      have hcv : (convert 24 9 (.slice (some ⟨w.heap.size, 0, none⟩) 1 1)).run Try.prog W = .ok (.string (Nm.S [UInt8.ofNat c])) W := by
        have hrow : RowAt W (some ⟨w.heap.size, 0, none⟩) 1 (Tr.rowF [UInt8.ofNat c]) := by
          refine ⟨.inr ⟨w.heap.size, 0, rfl, fun i hi => ?_⟩, Tr.rowF_bd _⟩
          obtain rfl : i = 0 := by omega
          rw [hW]
          have := cell_of_row (w.alloc (.cells #[.int .u8 (c : Int)] 5)) w.heap.size 0 _ _ _ (heap_alloc_new w _)
          rw [this]
          show some (Value.int .u8 (c : Int)) = _
          unfold Tr.rowF
          simp only [List.getD_cons_zero]
          rw [UInt8.toNat_ofNat']
          congr 2
          omega
        have := conv_row (C := 1) hrow
        rw [this]
        have e := Tr.str_S [UInt8.ofNat c]
        rw [show ([UInt8.ofNat c] : Tr.B).length = 1 from rfl] at e
        rw [e]
      have hcw : IntKind.u8.wrap (c : Int) = (c : Int) := by unfold IntKind.wrap; simp [IntKind.bits, IntKind.signed]; omega
      clear hz
      obtain ⟨X, hX⟩ : ∃ X, Hid (Nm.S (108 :: List.replicate k 122) = X) := ⟨_, rfl⟩
      obtain ⟨Y, hY⟩ : ∃ Y, Hid (Nm.S [UInt8.ofNat c] = Y) := ⟨_, rfl⟩
      rw [hX.out, hY.out] at hcat b1
      rw [hX.out]
      rw [hY.out] at hcv
      have HC : Hid (X ++ Y = Nm.S (Tr.lk i)) := hcat
      clear hcat
      go_wp2_with (refine wpList_oneB rfl (.tmp 13) rfl (c : Int) (by first | rfl | (simp only [hc2, hcw]) | (show Value.int _ _ = _; congr 1; omega)) ?_; rw [← hW]; clear hW)
      go_ret
      exact ⟨by rw [HC.out]; rfl, hbw⟩
theorem Tr.cells_to : ∀ (M : List Tr.Iv) (i : Nat) (y : Tr.Iv) (q : Tr.B), M[i]? = some y → (Tr.cellsI M).set (i * 6 + 5) (.string (Nm.S q)) = Tr.cellsI (M.set i ⟨⟨y.it.path, y.it.kind, y.it.mode, y.it.time, y.it.body, q⟩, y.ad, y.cp⟩)
  | [], i, y, q, h => by simp at h
  | z :: M, 0, y, q, h => by
    obtain rfl : z = y := by simpa using h
    rfl
  | z :: M, i + 1, y, q, h => by
    have := Tr.cells_to M i y q (by simpa using h)
    unfold Tr.cellsI
    rw [List.set_cons_succ]
    show (z.vals ++ Tr.cellsI M).set ((i + 1) * 6 + 5) _ = z.vals ++ Tr.cellsI (M.set i _)
    rw [← this, List.set_append_right _ _ (by rw [Tr.vals_len]; omega), Tr.vals_len, show (i + 1) * 6 + 5 - 6 = i * 6 + 5 by omega]
def Tr.chP (k : Nat) : List Tr.Iv := (List.range k).map fun i => Tr.nI (Tr.softI (Tr.lk i) (Tr.lk (i + 1)))
theorem Tr.chP_len (k : Nat) : (Tr.chP k).length = k := by unfold Tr.chP; rw [List.length_map, List.length_range]
theorem Tr.chP_succ (k : Nat) : Tr.chP (k + 1) = Tr.chP k ++ [Tr.nI (Tr.softI (Tr.lk k) (Tr.lk (k + 1)))] := by unfold Tr.chP; rw [List.range_succ, List.map_append]; rfl
theorem Tr.chP_at {n k : Nat} (h : k < n) : (Tr.chP n)[k]? = some (Tr.nI (Tr.softI (Tr.lk k) (Tr.lk (k + 1)))) := by
  unfold Tr.chP; rw [List.getElem?_map, List.getElem?_range h]; rfl
def Tr.chV (n : Nat) : List Tr.Iv := (Tr.chI n).map Tr.nI
theorem Tr.chV_its (n : Nat) : Tr.its (Tr.chV n) = Tr.chI n := by
  unfold Tr.chV Tr.its
  rw [List.map_map]
  exact List.map_id _
theorem Tr.chV_is {n : Nat} (hn : 1 ≤ n) : (Tr.chP n).set (n - 1) (Tr.nI (Tr.softI (Tr.lk (n - 1)) [120])) ++ [Tr.nI (Tr.fileI [120])] = Tr.chV n := by
  unfold Tr.chV Tr.chI
  rw [List.map_append]
  congr 1
  apply List.ext_getElem?
  intro j
  rw [List.getElem?_set, Tr.chP_len]
  by_cases e : n - 1 = j
  · subst e
    rw [if_pos rfl, if_pos (by omega), List.map_map, List.getElem?_map, List.getElem?_range (by omega)]
    simp only [Option.map_some, Function.comp]
    rw [if_pos (by omega)]
  · rw [if_neg e]
    rcases Nat.lt_or_ge j n with g | g
    · rw [Tr.chP_at g, List.map_map, List.getElem?_map, List.getElem?_range g]
      simp only [Option.map_some, Function.comp]
      rw [if_neg (by omega)]
    · rw [List.getElem?_eq_none (by rw [Tr.chP_len]; exact g), List.getElem?_eq_none (by rw [List.length_map, List.length_map, List.length_range]; exact g)]
theorem Tr.lk_len (k : Nat) : (Tr.lk k).length = k / 26 + 2 := by unfold Tr.lk; simp
theorem Tr.lk_fit (a b : Nat) (ha : a ≤ 1000) (hb : b ≤ 1000) : Tr.Fit (Tr.softI (Tr.lk a) (Tr.lk b)) :=
  ⟨by show 4 < 256; decide, by show (-9223372036854775808 : Int) ≤ 0 ∧ (0 : Int) ≤ 9223372036854775807; decide, by show (-9223372036854775808 : Int) ≤ 0 ∧ (0 : Int) ≤ 9223372036854775807; decide, by show (Tr.lk a).length ≤ _; rw [Tr.lk_len]; omega, by show 0 ≤ _; decide, by show (Tr.lk b).length ≤ _; rw [Tr.lk_len]; omega⟩
theorem Tr.chV_body {n : Nat} (hn : n ≤ 1000) : ∀ y ∈ Tr.chV n, ∀ u : World, BodyAt u y := by
  intro y hy u
  unfold Tr.chV at hy
  obtain ⟨x, hx, rfl⟩ := List.mem_map.1 hy
  unfold Tr.chI at hx
  rcases List.mem_append.1 hx with h | h
  · obtain ⟨i, hi, rfl⟩ := List.mem_map.1 h
    have hi := List.mem_range.1 hi
    refine bare u _ rfl ?_
    by_cases e : i + 1 = n
    · rw [if_pos e]
      exact ⟨by show 4 < 256; decide, by show (-9223372036854775808 : Int) ≤ 0 ∧ (0 : Int) ≤ 9223372036854775807; decide, by show (-9223372036854775808 : Int) ≤ 0 ∧ (0 : Int) ≤ 9223372036854775807; decide, by show (Tr.lk i).length ≤ _; rw [Tr.lk_len]; omega, by show 0 ≤ _; decide, by show 1 ≤ _; decide⟩
    · rw [if_neg e]; exact Tr.lk_fit i (i + 1) (by omega) (by omega)
  · rw [List.mem_singleton.1 h]
    exact bare u _ rfl ⟨by decide, by decide, by decide, by decide, by decide, by decide⟩
set_option maxRecDepth 100000 in
set_option maxHeartbeats 4000000 in
theorem chain11_any (n : Nat) (hn : 1 ≤ n) (hn2 : n ≤ 100) (w : World) : Calls Try.prog 25 #[.int .i64 (n : Int)] w fun e w' => (∃ A c, e = .returned (.slice A (n + 1) c) ∧ n + 1 ≤ c ∧ ItsAt w' A (Tr.chV n)) ∧ Bw w w' := by
  obtain ⟨j0, hj0, hy0, hy1, hy2⟩ := info_parts info_item
  obtain ⟨H, hH⟩ : ∃ H, Hid (w.heap.size = H) := ⟨_, rfl⟩
  go_enter Try.func25, Try.ntmps25
  go_wp2
  go_loopw [3, 4] (fun v i wr => ∃ k : Nat, k ≤ n ∧ i = .int .i64 (k : Int) ∧ Hid (wr.ownsRow H 26 6 v k (Tr.cellsI (Tr.chP k))) ∧ Bw w wr) (fun _ i _ => n - (intOf i).toNat)
  case atStart => exact ⟨0, Nat.zero_le _, rfl, World.ownsRow_nil _ _ _ _, Bw.refl _⟩
  case round =>
    obtain ⟨k, hk, rfl, hown, hbw⟩ := hrel
    have hHw : H ≤ wr.heap.size := by rw [← hH.out]; exact hbw.size
    by_cases hlt : k < n
    · have i1 : (k : Int) < (n : Int) := by omega
      have HL0 : Hid (∀ u, Calls Try.prog 46 #[.int .i64 (k : Int)] u fun e w' => e = .returned (.string (Nm.S (Tr.lk k))) ∧ Bw u w') := fun u => link11_any k (by omega) u
      have HL1 : Hid (∀ u, Calls Try.prog 46 #[.int .i64 ((k : Int) + 1)] u fun e w' => e = .returned (.string (Nm.S (Tr.lk (k + 1)))) ∧ Bw u w') := fun u => by
        have := link11_any (k + 1) (by omega) u
        rwa [show ((k + 1 : Nat) : Int) = (k : Int) + 1 by omega] at this
      have hbt : Try.prog.built 26 [(0, .string (Nm.S (Tr.lk k))), (1, .int .u8 4), (5, .string (Nm.S (Tr.lk (k + 1))))] = some (Tr.nI (Tr.softI (Tr.lk k) (Tr.lk (k + 1)))).arr := by kernel_rfl
      have HFi : Hid (∀ u : World, BodyAt u (Tr.nI (Tr.softI (Tr.lk k) (Tr.lk (k + 1))))) := fun u => bare u _ rfl (Tr.lk_fit k (k + 1) (by omega) (by omega))
      have HS : Hid (Tr.chP (k + 1) = Tr.chP k ++ [Tr.nI (Tr.softI (Tr.lk k) (Tr.lk (k + 1)))]) := Tr.chP_succ k
      have tok1 : Hid (w = w) := rfl
      go_wp2_with (first
        | (go_at_call 46; clear tok1; refine (HL0.out _).mono ?_; rintro e w1 ⟨rfl, hw1⟩)
        | (go_at_call 46; refine (HL1.out _).mono ?_; rintro e w2 ⟨rfl, hw2⟩; have hb2 := hbw.trans (hw1.trans hw2); obtain ⟨w5, hw5⟩ : ∃ V, V = w2.alloc (.cells (Tr.cellsI [Tr.nI (Tr.softI (Tr.lk k) (Tr.lk (k + 1)))]).toArray 26) := ⟨_, rfl⟩; have hb5 : Bw w2 w5 := (by rw [hw5]; exact bw_alloc11 (Bw.refl _) _); have HI5 : Hid (ItsAt w5 (some ⟨w2.heap.size, 0, none⟩) [Tr.nI (Tr.softI (Tr.lk k) (Tr.lk (k + 1)))]) := (by rw [hw5]; exact its_built (fun y hy u => by rw [List.mem_singleton.1 hy]; exact HFi.out u)); have hbw5 := hb2.trans hb5; have hH5 : H ≤ w5.heap.size := (by rw [← hH.out]; exact hbw5.size); have HO5 : Hid _ := own_keep hown.out ((hw1.trans hw2).trans hb5))
        | (refine wpList_built11 rfl 26 #[(0, .tmp 12), (1, .const (.int .u8 4)), (5, .tmp 15)] rfl _ hbt ?_)
        | (refine wpList_build1 (by rfl) (.tmp 16) rfl (Tr.nI (Tr.softI (Tr.lk k) (Tr.lk (k + 1)))) rfl ?_; rw [← hw5]; clear hw5)
        | (at_builtin; refine wpList_append_its _ (by rfl) (.tmp 10) (.tmp 17) _ (by rfl) H 26 j0 _ 80 Try.underlying22 hj0 hy0 hy1 hy2 rfl _ _ _ (by rfl) HO5.out (some ⟨w2.heap.size, 0, none⟩) 1 [Tr.nI (Tr.softI (Tr.lk k) (Tr.lk (k + 1)))] 1 rfl (by rfl) HI5.out (fun e => by cases e) (by unfold maxLen; omega) (by omega) hH5 ?_; intro v6 w6 hown6 hgrow6))
      go_roundw
      case rel => exact ⟨k + 1, by omega, by go_num, by rw [HS.out, Tr.cellsI_append]; exact hown6, by
        have := bw_grow hgrow6 (base := H) (by rw [← hH.out]; exact hbw5) hH5 HO5.out
        rw [← hH.out] at this; exact this⟩
      case measure => simp [intOf]; omega
    · obtain rfl : k = n := by omega
      obtain ⟨g, c, hv, hgb⟩ := own_some hown.out hn
      subst hv
      obtain ⟨m, rfl⟩ : ∃ m, k = m + 1 := ⟨k - 1, by omega⟩
      have hcx : ∃ u, wr.cell? ⟨g, m * 6 + 5, none⟩ = some u := by
        have := hown.out.cellAt (m * 6 + 5) (by omega)
        rw [this, Tr.cellsI_get _ m _ 5 (Tr.chP_at (show m < m + 1 by omega)) (by omega)]
        exact ⟨_, rfl⟩
      obtain ⟨u0, hcx⟩ := hcx
      have hfx := hown.out.frozenAt (m * 6 + 5)
      have HO3 : Hid ((wr.setCell ⟨g, m * 6 + 5, none⟩ (.string (Nm.S [120]))).ownsRow H 26 6 (.slice (some ⟨g, 0, none⟩) (m + 1) c) (m + 1) (Tr.cellsI ((Tr.chP (m + 1)).set m (Tr.nI (Tr.softI (Tr.lk m) [120]))))) := by
        have h1 := (hown.out.stored (m * 6 + 5) (.string (Nm.S [120]))).1
        rw [Tr.cells_to _ m _ [120] (Tr.chP_at (show m < m + 1 by omega))] at h1
        exact h1
      have hbs : Bw w (wr.setCell ⟨g, m * 6 + 5, none⟩ (.string (Nm.S [120]))) := hbw.put (by rw [hH.out]; exact hgb) _ _
      have HFx : Hid (∀ u, Calls Try.prog 21 #[.string ⟨#[120]⟩] u fun e w' => e = .returned (.agg (Tr.nI (Tr.fileI [120])).arr) ∧ Bw u w') := fun u => file11_any [120] u
      have HV : Hid ((Tr.chP (m + 1)).set m (Tr.nI (Tr.softI (Tr.lk m) [120])) ++ [Tr.nI (Tr.fileI [120])] = Tr.chV (m + 1)) := Tr.chV_is hn
      have HVb : Hid (∀ y ∈ Tr.chV (m + 1), ∀ u : World, BodyAt u y) := Tr.chV_body (by omega)
      have HVl : Hid ((Tr.chV (m + 1)).length = m + 1 + 1) := by show _ = _; rw [← HV.out, List.length_append, List.length_set, Tr.chP_len]; rfl
      have HFb : Hid (∀ u : World, BodyAt u (Tr.nI (Tr.fileI [120]))) := fun u => bare u _ rfl ⟨by decide, by decide, by decide, by decide, by decide, by decide⟩
      obtain ⟨ws, hws⟩ : ∃ V, V = wr.setCell ⟨g, m * 6 + 5, none⟩ (.string ⟨#[120]⟩) := ⟨_, rfl⟩
      have e120 : (⟨#[120]⟩ : ByteArray) = Nm.S [120] := rfl
      rw [← e120, ← hws] at HO3 hbs
      clear hown e120
      have r1 : ((m + 1 : Nat) : Int) - 1 = (m : Int) := by omega
      have r2 : (m : Int) < ((m + 1 : Nat) : Int) := by omega
      have r3 : (0 : Int) ≤ (m : Int) := Int.natCast_nonneg _
      go_upto_region 7 with fail
      rw [← hws]
      clear hws hcx hfx
      go_wp2_with (first
        | (go_at_call 21; refine (HFx.out _).mono ?_; rintro e w2 ⟨rfl, hw2⟩; have hb2 := hbs.trans hw2; obtain ⟨w5, hw5⟩ : ∃ V, V = w2.alloc (.cells (Tr.cellsI [Tr.nI (Tr.fileI [120])]).toArray 26) := ⟨_, rfl⟩; have hb5 : Bw w2 w5 := (by rw [hw5]; exact bw_alloc11 (Bw.refl _) _); have HI5 : Hid (ItsAt w5 (some ⟨w2.heap.size, 0, none⟩) [Tr.nI (Tr.fileI [120])]) := (by rw [hw5]; exact its_built (fun y hy u => by rw [List.mem_singleton.1 hy]; exact HFb.out u)); have hbw5 := hb2.trans hb5; have hH5 : H ≤ w5.heap.size := (by rw [← hH.out]; exact hbw5.size); have HO5 : Hid _ := own_keep HO3.out (hw2.trans hb5))
        | (refine wpList_build1 (by rfl) (.tmp 25) rfl (Tr.nI (Tr.fileI [120])) rfl ?_; rw [← hw5]; clear hw5)
        | (at_builtin; refine wpList_append_its _ (by rfl) (.tmp 24) (.tmp 26) _ (by rfl) H 26 j0 _ 80 Try.underlying22 hj0 hy0 hy1 hy2 rfl _ _ _ (by rfl) HO5.out (some ⟨w2.heap.size, 0, none⟩) 1 [Tr.nI (Tr.fileI [120])] 1 rfl (by rfl) HI5.out (fun e => by cases e) (by unfold maxLen; omega) (by omega) hH5 ?_; intro v6 w6 hown6 hgrow6; have hb6 : Bw w w6 := (by have := bw_grow hgrow6 (base := H) (by rw [← hH.out]; exact hbw5) hH5 HO5.out; rw [← hH.out] at this; exact this); rw [← Tr.cellsI_append, HV.out] at hown6; obtain ⟨A6, c6, hv6, hle6, hI6, -, -⟩ := its_of_own (L := Tr.chV (m + 1)) (by rw [HVl.out]; exact hown6) (fun y hy => HVb.out y hy w6); rw [HVl.out] at hv6 hle6; subst hv6; clear hown6 hgrow6))
      go_ret
      exact ⟨⟨A6, c6, rfl, hle6, hI6⟩, hb6⟩
/-- small's answer, with its memory -/
def SmallOwn (base : Nat) (e : Ending) (w' : World) : Prop := ∃ k g, e = .returned (.slice (some ⟨k, 0, none⟩) 5 5) ∧ ItsAt w' (some ⟨k, 0, none⟩) (Tr.sm g) ∧ base ≤ k ∧ w'.heap[k]? = some (.cells (Tr.cellsI (Tr.sm g)).toArray 26 (0, 0))
set_option maxRecDepth 100000 in
set_option maxHeartbeats 1000000 in
theorem small_own (w : World) : Calls Try.prog 24 #[] w fun e w' => SmallOwn w.heap.size e w' ∧ Bw w w' := by
  have b0 := bt0
  have b1 := bt1 w.heap.size
  have b2 := bt2
  have b3 := bt3
  have b4 := bt4
  obtain ⟨W, hW⟩ : ∃ V, V = w.alloc (.cells #[.int .u8 1, .int .u8 2, .int .u8 3] 5) := ⟨_, rfl⟩
  have hbw : Bw w W := by rw [hW]; exact bw_alloc11 (Bw.refl _) _
  have hrow : RowAt W (some ⟨w.heap.size, 0, none⟩) 3 (Tr.rowF [1, 2, 3]) := by
    rw [hW]
    refine row_new w _ _ 3 _ (Tr.rowF_bd _) (fun i hi => ?_)
    rcases (show i = 0 ∨ i = 1 ∨ i = 2 by omega) with rfl | rfl | rfl <;> rfl
  go_enter Try.func24, Try.ntmps24
  go_wp2_with (first
    | refine wpList_built11 rfl 26 _ rfl _ b0 ?_
    | (refine wpList_b123 rfl rfl ?_; rw [← hW]; clear hW)
    | refine wpList_built11 rfl 26 _ rfl _ b1 ?_
    | refine wpList_built11 rfl 26 _ rfl _ b2 ?_
    | refine wpList_built11 rfl 26 _ rfl _ b3 ?_
    | refine wpList_built11 rfl 26 _ rfl _ b4 ?_
    | refine wpList_small5 rfl (.tmp 1) (.tmp 3) (.tmp 4) (.tmp 5) (.tmp 6) rfl _ _ _ _ _ rfl rfl rfl rfl rfl ?_)
  go_ret
  refine ⟨⟨W.heap.size, w.heap.size, rfl, its_alloc (L := Tr.sm w.heap.size) fun y hy => ?_, hbw.size, heap_alloc_new _ _⟩, bw_alloc11 hbw _⟩
  simp only [Tr.sm, List.mem_cons, List.not_mem_nil, or_false] at hy
  rcases hy with rfl | rfl | rfl | rfl | rfl
  · exact ⟨⟨.inl rfl, Tr.rowF_bd _⟩, Nat.le_refl _, fun _ => rfl, ⟨by decide, by decide, by decide, by decide, by decide, by decide⟩⟩
  · exact ⟨hrow.keep (bw_alloc11 (Bw.refl _) _), Nat.le_refl _, (fun e => by cases e), Tr.fit_s1⟩
  · exact ⟨⟨.inl rfl, Tr.rowF_bd _⟩, Nat.le_refl _, fun _ => rfl, ⟨by decide, by decide, by decide, by decide, by decide, by decide⟩⟩
  · exact ⟨⟨.inl rfl, Tr.rowF_bd _⟩, Nat.le_refl _, fun _ => rfl, ⟨by decide, by decide, by decide, by decide, by decide, by decide⟩⟩
  · exact ⟨⟨.inl rfl, Tr.rowF_bd _⟩, Nat.le_refl _, fun _ => rfl, ⟨by decide, by decide, by decide, by decide, by decide, by decide⟩⟩
end Go.Proofs.Ytjifdoneejofiab
