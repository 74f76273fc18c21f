/- Colors that are used most: the program's. -/
import Derived.Test.YtpfobocdbmiagaaDoorMg10
import Derived.Test.YtpfobocdbmiagaaDoorMg8
import Derived.Test.YtpfobocdbmiagaaDoorMg7
import Derived.Lib.SliceRun
import Derived.Lib.MinMax
import Derived.Lib.AppendIntMem
import Derived.Lib.OwnBridge
import Derived.OwnWalk
namespace Go.Proofs.YtpfobocdbmiagaaDoor
open Go.Shelf Go.RowKit Go.Lib Go.Sort St

theorem usL_one {l : List Us} {u : Value} (h : u ∈ usL l) : u.oneCell' = true := by
  obtain ⟨x, _, hx⟩ := List.mem_flatMap.1 h
  simp only [Us.cells, List.mem_cons, List.not_mem_nil, or_false] at hx
  rcases hx with rfl | rfl | rfl | rfl | rfl <;> rfl
theorem us_lies {w : World} {b off : Nat} {l : List Us} (h : ∀ i, i < l.length → UsAt w b (off + i * 5) (l.getD i default)) : ∀ j u, (usL l)[j]? = some u → w.cell? ((⟨b, off, none⟩ : Addr).add j) = some u := fun j u hj => by
  have hjl : j < l.length * 5 := by
    rcases Nat.lt_or_ge j (l.length * 5) with q | q
    · exact q
    · rw [List.getElem?_eq_none (by rw [usL_length]; exact q)] at hj; cases hj
  have hadd : (⟨b, off, none⟩ : Addr).add j = ⟨b, off + j, none⟩ := by unfold Addr.add; split <;> simp_all
  rw [hadd, ← hj]
  have e := usL_at l (j / 5) (j % 5) (by omega) (by omega)
  rw [show j / 5 * 5 + j % 5 = j by omega] at e
  rw [e]
  have hc := h (j / 5) (by omega)
  rw [List.getD_eq_getElem?_getD, List.getElem?_eq_getElem (show j / 5 < l.length by omega)] at hc
  obtain ⟨⟨c0, c1, c2, c3⟩, c4⟩ := hc
  rcases (show j % 5 = 0 ∨ j % 5 = 1 ∨ j % 5 = 2 ∨ j % 5 = 3 ∨ j % 5 = 4 by omega) with q | q | q | q | q
  · rw [q, show off + j = off + j / 5 * 5 by omega]; exact c0
  · rw [q, show off + j = off + j / 5 * 5 + 1 by omega]; exact c1
  · rw [q, show off + j = off + j / 5 * 5 + 2 by omega]; exact c2
  · rw [q, show off + j = off + j / 5 * 5 + 3 by omega]; exact c3
  · rw [q, show off + j = off + j / 5 * 5 + 4 by omega]; exact c4

set_option maxHeartbeats 2000000 in
set_option maxRecDepth 100000 in
theorem cloneU_any (b off n c : Nat) (l : List Us) (w : World) (hc : ∀ i, i < l.length → UsAt w b (off + i * 5) (l.getD i default)) (hl : l.length = n) (hn : n ≤ 100000) :
    Calls Tryd.prog 47 #[.slice (some ⟨b, off, none⟩) n c] w fun e w' => ∃ a2 c2, e = .returned (.slice a2 n c2) ∧ w'.ownsRow w.heap.size 42 5 (.slice a2 n c2) n (usL l) ∧ Below w.heap.size w w' := by
  obtain ⟨i0, hi, hz0, hz1, hz2⟩ := info_parts us_info
  have q22 : ∀ (w : World) (a : Option Addr) (n c : Nat), (binOp .eql 27 (.slice a n c) (.slice none 0 0)).run Tryd.prog w = .ok (.bool a.isNone) w := fun w a n c => Lib.run_eql_slice_nil w _ _ a n c 0 0 Tryd.underlying27
  have HL : Hid (∀ j u, (usL l)[j]? = some u → (w.alloc (.cells #[] 42)).cell? ((⟨b, off, none⟩ : Addr).add j) = some u) := fun j u hj => Lib.cell?_alloc_some _ (us_lies hc j u hj)
  have HPL : Hid ((usL l).length = n * 5) := by show _ = _; rw [usL_length, hl]
  have HP1 := hide (fun u (h : u ∈ usL l) => usL_one h)
  obtain ⟨xs, hxs⟩ : ∃ xs, xs = usL l := ⟨_, rfl⟩
  rw [← hxs] at HL HPL HP1
  clear hc hl
  go_enter Tryd.func47, Tryd.ntmps47
  go_wp2_with (at_builtin; refine wpList_append_own _ rfl _ _ 27 rfl w.heap.size 42 i0 (.agg #[.int .u8 0, .int .u8 0, .int .u8 0, .int .u8 0, .int .i64 0]) 5 16 Tryd.underlying27 hi hz0 hz1 hz2 rfl (by decide) _ _ _ rfl (World.ownsRow_made w #[] 0 (Nat.le_refl _) (Nat.zero_le _) rfl) ⟨b, off, none⟩ n c xs rfl (unhide HPL) (unhide HL) (unhide HP1) ?qc4 ?qc5 ?qc6 ?_)
  case qc4 => unfold maxLen; omega
  case qc5 => omega
  case qc6 => simp
  intro v' w1 hown hgrow hnil
  have HB := hide (((Below.refl w.heap.size w).alloc (Nat.le_refl _) (.cells #[] 42)).grown hgrow (by simp) (by intro k hk; simp [Value.ownBlock] at hk; omega))
  have hown : w1.ownsRow w.heap.size 42 5 v' n (usL l) := by first | exact hown | simpa [hxs] using hown
  obtain ⟨a2, c2, rfl⟩ : ∃ a2 c2, v' = .slice a2 n c2 := by
    rcases hown.2 with ⟨e, q⟩ | ⟨g, cap, cur, e, _⟩
    · subst q; exact ⟨none, 0, e⟩
    · exact ⟨_, _, e⟩
  have HX := hide hown
  clear hown hgrow hnil HL HPL HP1
  go_wp2
  go_ret
  exact ⟨a2, c2, rfl, unhide HX, unhide HB⟩

/-- How two uses are told apart. -/
def cfU (x y : Us) : Int := cmpI (y.t : Int) (x.t : Int)
set_option maxHeartbeats 1000000 in
theorem mostUsed1_any (x y : Us) (W : World) : Calls Tryd.prog 49 #[.agg (encU x).toArray, .agg (encU y).toArray] W fun e w' => e = .returned (.int .i64 (cfU x y)) ∧ ∃ q os', w' = grow (W.drewN q) os' := by
  have hcon := fun W' => hide (compare_any (y.t : Int) (x.t : Int) W')
  unfold cfU encU Us.cells
  go_enter Tryd.func49, Tryd.ntmps49
  go_wp2_with fail
  refine (unhide (hcon _)).mono ?_; rintro e w1 ⟨rfl, rfl⟩
  go_wp2
  go_ret
  exact ⟨rfl, 0, _, by rw [alloc_eq_grow, alloc_eq_grow, grow_grow]; rfl⟩
theorem holdsU {w : World} {base g cap : Nat} {xs : List Us} (h : w.ownsRow base 42 5 (.slice (some ⟨g, 0, none⟩) xs.length cap) xs.length (usL xs)) : HoldsK encU 5 w g 0 xs.toArray := by
  intro t ht
  rw [size_flatK] at ht
  have ht' : t < xs.length * 5 := by simpa using ht
  rw [get_flatK _ _ _ _ ht, Nat.zero_add, h.cellAt t ht']
  refine ⟨?_, h.frozenAt t⟩
  have e := usL_at xs (t / 5) (t % 5) (by omega) (by omega)
  rw [show t / 5 * 5 + t % 5 = t by omega] at e
  have e2 : xs.toArray[t / 5]! = xs[t / 5]'(by omega) := by rw [getElem!_pos _ _ (by simp; omega)]; simp
  rw [e, e2]
  have hl : t % 5 < (xs[t / 5]'(by omega)).cells.length := by show t % 5 < 5; omega
  rw [List.getElem?_eq_getElem hl]
  congr 1
  show _ = (xs[t / 5]'(by omega)).cells[t % 5]!
  rw [getElem!_pos (xs[t / 5]'(by omega)).cells (t % 5) hl]
theorem sortedU_own {w w2 w3 : World} {B g : Nat} {d0 d' : Array Us} (R : RowK encU 5 w2 g 0 d0) (hs : d'.size = d0.size) (hBw : B ≤ w2.heap.size) (hB : B ≤ g) (hb : Below B w w2) (S : SWK encU 5 w2 g 0 d' w3) :
    (∀ i, (h : i < d'.toList.length) → UsAt w3 g (i * 5) d'.toList[i]) ∧ Below B w w3 := by
  refine ⟨fun i h => ?_, ?_⟩
  · obtain ⟨c0, c1, c2, c3, c4, _⟩ := cellsU S R hs i (by simpa using h)
    have e : d'[i]! = d'.toList[i] := by rw [getElem!_pos d' i (by simpa using h)]; simp
    rw [e, Nat.zero_add] at c0 c1 c2 c3 c4
    exact ⟨⟨c0, c1, c2, c3⟩, c4⟩
  · obtain ⟨m, os, rfl⟩ := S
    have h2 : Below B w (putRow id (Sort.ahead w2 m) g 0 (flatK encU 5 d')) := below_putRow hb hB
    exact h2.trans (below_grow B _ (by rw [size_putRow]; exact hBw) 0 os)
theorem swoU (U : List Px) : SWO (ltU U) := ⟨ltU_irrefl U, fun x y z => ltU_trans U x y z, fun x y z => ltU_ntrans U x y z⟩
theorem gU {p : Nat → Px} {n : Nat} (s t : Nat) (hst : s < t) (ht : t < (ucnt p n).toArray.size) : G (ltOf cfU) (ltU (ulk p n)) (ucnt p n).toArray[s]! (ucnt p n).toArray[t]! := by
  unfold G ltOf cfU
  rw [cmpI_neg]
  have hl : (ucnt p n).length = (ulk p n).length := ucnt_length p n
  have ht' : t < (ucnt p n).length := by simpa using ht
  have es : (ucnt p n).toArray[s]! = (ucnt p n)[s]'(by omega) := by rw [getElem!_pos _ _ (by simp; omega)]; simp
  have et : (ucnt p n).toArray[t]! = (ucnt p n)[t]'ht' := by rw [getElem!_pos _ _ (by simpa using ht')]; simp
  rw [es, et]
  have hi : ∀ i, (h : i < (ucnt p n).length) → (ulk p n).idxOf ((ucnt p n)[i]'h).c = i := fun i h => by
    have hiU : i < (ulk p n).length := by omega
    have e : ((ucnt p n)[i]'h).c = (ulk p n)[i]'hiU := by
      have h1 := congrArg (fun l => l[i]?) (ucnt_colors p n)
      simp only [List.getElem?_map, List.getElem?_eq_getElem h, List.getElem?_eq_getElem hiU, Option.map_some, Option.some.injEq] at h1
      exact h1
    rw [e]
    exact (ulk_nodup p n).idxOf_getElem i hiU
  unfold ltU
  rw [hi s (by omega), hi t ht']
  simp only [decide_eq_decide]
  omega

set_option maxHeartbeats 4000000 in
set_option maxRecDepth 100000 in
theorem mostUsed_any (a : Option Addr) (c : Nat) (p : Nat → Px) (N m : Nat) (w : World) (hU : IsUs w a (ulk p N).length (usF p N)) (hN : N ≤ 70000) (hN1 : 1 ≤ N) (hm : 1 ≤ m ∧ m ≤ 256) :
    Calls Tryd.prog 38 #[.slice a (ulk p N).length c, .int .i64 (m : Int)] w fun e w' => ∃ a3 c3, e = .returned (.slice a3 (min m (ulk p N).length) c3) ∧ IsPx w' a3 (min m (ulk p N).length) (fun i => ((mostL p N).getD i default).c) ∧ Below w.heap.size w w' := by
  have hul := ulk_len p N
  have hul1 : 1 ≤ (ulk p N).length := List.length_pos_of_mem (ulk_has p (show 0 < N by omega))
  obtain ⟨b, off, rfl, _, hc⟩ := hU.resolve_left (by omega)
  have hlen := ucnt_length p N
  have HCl := hide (cloneU_any b off (ulk p N).length c (ucnt p N) w (fun i hi => hc i (by omega)) hlen (by omega))
  have HSO : Hid (∀ (w2 : World) (g cap : Nat), w2.ownsRow w.heap.size 42 5 (.slice (some ⟨g, 0, none⟩) (ulk p N).length cap) (ulk p N).length (usL (ucnt p N)) → Below w.heap.size w w2 →
      Calls Tryd.prog 48 #[.slice (some ⟨g, 0, none⟩) (ulk p N).length cap, .func (.func 49) #[] #[]] w2 fun e w3 => e = .returned (.tuple #[]) ∧ (∀ i, i < (ulk p N).length → UsAt w3 g (i * 5) ((mostL p N).getD i default)) ∧ Below w.heap.size w w3 ∧ w2.heap.size ≤ w3.heap.size) := fun w2 g cap hown hbw => by
    obtain ⟨_, _, hgB, hgl⟩ := own_some hown (by omega)
    rename_i g' he
    have hown' : w2.ownsRow w.heap.size 42 5 (.slice (some ⟨g, 0, none⟩) (ucnt p N).length cap) (ucnt p N).length (usL (ucnt p N)) := by rw [hlen]; exact hown
    have hg2 := hown.lt g rfl
    have R : RowK encU 5 w2 g 0 (ucnt p N).toArray := ⟨encU_len, encU_one, holdsU hown', hg2.2⟩
    have eg : ∀ args w, (callFunc 49 args).run Tryd.prog w = .ok (.enter 49 args) w := enters_of Tryd.func49 (by kernel_rfl) rfl
    have hcon := sortStableU_any 49 #[] g 0 cap (ucnt p N).toArray w2 (ltU (ulk p N)) (swoU _) cfU eg (fun _ _ _ _ x y => mostUsed1_any x y _) R (by simp; omega) (fun s t hst ht => gU s t hst ht) (SWK.start R.hH)
    have hsa : (ucnt p N).toArray.size = (ulk p N).length := by simp [hlen]
    have hsz : (ucnt p N).toArray.size = (ucnt p N).length := by simp
    have hfin : ∀ (d' : Array Us) (w3 : World), SWK encU 5 w2 g 0 d' w3 → PermIn 0 (ucnt p N).toArray.size (ucnt p N).toArray d' → SortedIn (ltU (ulk p N)) 0 (ucnt p N).toArray.size d' →
        (∀ i, i < (ulk p N).length → UsAt w3 g (i * 5) ((mostL p N).getD i default)) ∧ Below w.heap.size w w3 ∧ w2.heap.size ≤ w3.heap.size := fun d' w3 S hp hso => by
      have hpm := perm_whole hp
      have hd : d'.size = (ucnt p N).toArray.size := hp.1
      obtain ⟨o1, o2⟩ := sortedU_own R hd hbw.size hg2.1 hbw S
      have heq : d'.toList = mostL p N := by
        refine most_only hpm (List.pairwise_iff_getElem.2 (fun i j hi hj hij => ?_))
        have h1 := hso i j (Nat.zero_le _) hij (by rw [← hd]; simpa using hj)
        rw [getElem!_pos d' i (by simpa using hi), getElem!_pos d' j (by simpa using hj)] at h1
        simpa using h1
      refine ⟨fun i hi => ?_, o2, ?_⟩
      · have hi' : i < d'.toList.length := by rw [Array.length_toList, hd, hsa]; exact hi
        have := o1 i hi'
        rw [← heq, List.getD_eq_getElem?_getD, List.getElem?_eq_getElem hi']
        exact this
      · obtain ⟨m', os, rfl⟩ := S
        unfold sortWorldK
        rw [Go.Sort.size_grow]
        have h2 : (putRow id (Sort.ahead w2 m') g 0 (flatK encU 5 d')).heap.size = w2.heap.size := by rw [size_putRow]; rfl
        have h3 : (putRowK encU 5 (Sort.ahead w2 m') g 0 d').heap.size = w2.heap.size := h2
        omega
    rw [hsa] at hcon hfin
    refine hcon.mono ?_
    rintro e w3 ⟨he2, d', S, hp, hso⟩
    exact ⟨he2, hfin d' w3 S hp hso⟩
  obtain ⟨L, hL⟩ : ∃ L, L = (ulk p N).length := ⟨_, rfl⟩
  rw [← hL] at HCl HSO hul hul1 ⊢
  obtain ⟨k, hk⟩ : ∃ k, k = min m L := ⟨_, rfl⟩
  have hmin : min (m : Int) (L : Int) = (k : Int) := by rw [hk]; omega
  have hk1 : 1 ≤ k ∧ k ≤ L := by omega
  rw [← hk] at ⊢
  have HCO := hide (fun g c' wr (h : IsUs wr (some ⟨g, 0, none⟩) k (fun i => (mostL p N).getD i default)) => colorsOf_any (some ⟨g, 0, none⟩) k c' (fun i => (mostL p N).getD i default) wr h (by omega))
  clear hU hc hlen hL hk
  go_enter Tryd.func38, Tryd.ntmps38
  go_wp2_with fail
  refine (unhide HCl).mono ?_
  rintro e w2 ⟨a2, c2, rfl, ho2, hb2⟩
  obtain ⟨g, rfl, hg, hgl⟩ := own_some ho2 (by omega)
  have hcap : L ≤ c2 := by
    rcases ho2.2 with ⟨_, q⟩ | ⟨g', cap, cur, hv, _, _, h, _⟩
    · omega
    · injection hv with _ _ hv; omega
  have HS2 := hide (unhide HSO w2 g c2 ho2 hb2)
  clear ho2 hb2 HCl HSO
  go_wp2_with fail
  refine (unhide HS2).mono ?_
  rintro e w3 ⟨rfl, hu3, hb3, hz3⟩
  have HU3 : Hid (IsUs w3 (some ⟨g, 0, none⟩) k (fun i => (mostL p N).getD i default)) := .inr ⟨g, 0, rfl, by unfold maxLen; omega, fun i hi => by rw [Nat.zero_add]; exact hu3 i (by omega)⟩
  have HB3 := hide hb3
  have hs3 := hb3.size
  clear hu3 hb3 HS2
  have hkc : (k : Int) ≤ (c2 : Int) := by omega
  go_wp2_with fail
  refine (unhide HCO g _ _ (unhide HU3)).mono ?_
  rintro e w4 ⟨a4, c4, rfl, ho4, hb4⟩
  have HX : Hid (IsPx w4 a4 k (fun i => ((mostL p N).getD i default).c)) := by
    rw [pxL_vals, colL_length] at ho4
    refine (own_px ho4 (by unfold maxLen; omega)).congr (fun i hi => ?_)
    exact colL_at _ _ _ hi
  have HB4 := hide ((unhide HB3).trans (hb4.mono hs3))
  clear ho4 hb4 HU3 HB3 HCO
  go_wp2
  go_ret
  exact ⟨a4, c4, rfl, unhide HX, unhide HB4⟩
end Go.Proofs.YtpfobocdbmiagaaDoor
