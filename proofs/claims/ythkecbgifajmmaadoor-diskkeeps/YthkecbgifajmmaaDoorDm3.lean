/- The document's disk: Crash. -/
import Derived.Test.YthkecbgifajmmaaDoorDm2
namespace Go.Proofs.YthkecbgifajmmaaDoor
open Go.RowKit

theorem MP.keep {w w' : World} {p n : Nat} {sk : Option Addr} {ck : Nat} {sn : Option Addr} {cn : Nat} {sw : Option Addr} {cw : Nat} {D : DkS} (h : MP w p n sk ck sn cn sw cw D) (hb : ∀ k, k < w.heap.size → w'.heap[k]? = w.heap[k]?) : MP w' p n sk ck sn cn sw cw D :=
  ⟨(hb p (blk_lt h.box)).trans h.box, own_keep h.kept (fun b hk => hb b (own_lt h.kept b hk)), own_keep h.now (fun b hk => hb b (own_lt h.now b hk)), own_keep h.ws (fun b hk => hb b (own_lt h.ws b hk)), h.pb, h.nd⟩
theorem MP.setKept {w : World} {p n : Nat} {gk ck : Nat} {sn : Option Addr} {cn : Nat} {sw : Option Addr} {cw : Nat} {D : DkS} (h : MP w p n (some ⟨gk, 0, none⟩) ck sn cn sw cw D) (i : Nat) (hi : i < n) (s : ByteArray) :
    MP (w.setCell ⟨gk, i, none⟩ (.string s)) p n (some ⟨gk, 0, none⟩) ck sn cn sw cw { D with kept := updS D.kept i s } := by
  obtain ⟨a1, a2, a3, a4, a5, a6⟩ := h.apart
  have hgk : gk ∈ (blkS (some ⟨gk, 0, none⟩)).toList := by simp [blkS]
  have far : ∀ b, b ≠ gk → (w.setCell ⟨gk, i, none⟩ (.string s)).heap[b]? = w.heap[b]? := fun b hb => Below.heap_setCell _ _ _ _ hb
  refine ⟨(far p (fun e => a1 gk hgk e.symm)).trans h.box, ?_, own_keep h.now (fun b hb => far b (fun e => a4 gk hgk (by rw [← e]; exact hb))), own_keep h.ws (fun b hb => far b (fun e => a5 gk hgk (by rw [← e]; exact hb))), h.pb, h.nd⟩
  have := (h.kept.stored i (.string s)).1
  rw [strL_set _ _ _ _ hi] at this
  exact this

set_option maxHeartbeats 8000000 in
set_option maxRecDepth 100000 in
theorem mcrash_any (p n : Nat) (fp : List Nat) (D : DkS) (s : Option Addr) (kn kc : Nat) (kb : Nat → Bool) (w : World) (h : MAt w p n fp D) (hok : DkOk n D) (hs : IsB w s kn kb) (hd : 0 < kn → ∀ k, k ∈ (blkS s).toList → k ∉ fp) (hkn : kn ≤ 1000000) (hn : 0 < n) (hn2 : n ≤ 4000) :
    Calls Tryd.prog 17 #[.pointer (some ⟨p, 0, none⟩), .slice s kn kc] w fun e w' => e = .returned (.tuple #[]) ∧ ∃ fp', MAt w' p n fp' (crashS D (keptB kn kb)) ∧ Mv fp fp' w w' := by
  have HO := hide hok
  have hfew := hok.few
  have HS := hide hs
  have HD := hide hd
  obtain ⟨sk, ck, sn, cn, sw, cw, rfl, hp⟩ := h
  obtain ⟨gk, rfl, hck, hcm, _⟩ := own_some hp.kept hn
  unfold maxLen at hcm
  have HP2 : Hid (MP w p n (some ⟨gk, 0, none⟩) ck sn cn sw cw ⟨D.now, kfS (keptB kn kb) D.kept D.ws 0, D.ws, D.pw⟩) := hp
  have HB2 : Hid (But (· ∈ p :: ((blkS (some ⟨gk, 0, none⟩)).toList ++ ((blkS sn).toList ++ (blkS sw).toList))) w w) := But.refl _ _
  clear hp hok hs hd
  obtain ⟨w2, rfl⟩ : ∃ w2, w2 = w := ⟨_, rfl⟩
  go_enter Tryd.func17, Tryd.ntmps17
  go_wp2
  go_loopw [4] (fun iv wr => ∃ k : Nat, iv = .int .i64 (k : Int) ∧ k ≤ D.ws.length ∧ Hid (MP wr p n (some ⟨gk, 0, none⟩) ck sn cn sw cw ⟨D.now, kfS (keptB kn kb) D.kept D.ws k, D.ws, D.pw⟩) ∧ Hid (But (· ∈ p :: ((blkS (some ⟨gk, 0, none⟩)).toList ++ ((blkS sn).toList ++ (blkS sw).toList))) w2 wr)) (fun iv _ => D.ws.length - (intOf iv).toNat)
  case atStart => exact ⟨0, rfl, by omega, HP2, HB2⟩
  case round =>
    obtain ⟨k, rfl, hkm, HP, HB⟩ := hrel
    obtain ⟨k0, k1, k2, k3, kf, kq⟩ := (unhide HP).cells
    by_cases hk : k < D.ws.length
    · clear HP2 HB2
      have hkk : (k : Int) < (D.ws.length : Int) := by omega
      have hk0 : (0 : Int) ≤ (k : Int) := by omega
      have dk : decide ((k : Int) < (D.ws.length : Int)) = true := decide_eq_true hkk
      have dkn : decide (k < D.ws.length) = true := decide_eq_true hk
      obtain ⟨gw, rfl, hcw, hcwm, _⟩ := own_some (unhide HP).ws (show 0 < D.ws.length by omega)
      have hcw : D.ws.length ≤ cw := hcw
      obtain ⟨x, hx⟩ : ∃ x, x = wat D.ws k := ⟨_, rfl⟩
      have hmem := (unhide HO).ws _ (wat_mem hk)
      rw [← hx] at hmem
      have w0 : wr.cell? ⟨gw, k * 2, none⟩ = some (.int .i64 (x.1 : Int)) := by
        have h1 := (unhide HP).ws.cellAt (k * 2) (show k * 2 < D.ws.length * 2 by omega)
        have h2 := waiV_at D.ws k 0 hk (by omega)
        rw [Nat.add_zero, ← hx] at h2
        exact h1.trans h2
      have w1 : wr.cell? ⟨gw, k * 2 + 1, none⟩ = some (.string x.2) := by
        have h1 := (unhide HP).ws.cellAt (k * 2 + 1) (show k * 2 + 1 < D.ws.length * 2 by omega)
        have h2 := waiV_at D.ws k 1 hk (by omega)
        rw [← hx] at h2
        exact h1.trans h2
      have hX1 := hmem.1
      have HX := hide hx
      have skip : keptB kn kb k = false → kfS (keptB kn kb) D.kept D.ws (k + 1) = kfS (keptB kn kb) D.kept D.ws k := fun e => by
        show (if keptB kn kb k then _ else _) = _
        rw [e]; rfl
      have SKIP := hide skip
      unfold maxLen at hcwm
      clear skip hx hmem k1 k3
      by_cases hkk2 : k < kn
      · obtain ⟨gb, ob, rfl, hml, hc⟩ := (unhide HS).resolve_left (by omega)
        have ck1 := hc k hkk2
        have ckl := World.block_lt_of_cell? _ _ ck1
        have ck4 : wr.cell? ⟨gb, ob + k, none⟩ = some (.bool (kb k)) := ((unhide HB).cell (p := ⟨gb, ob + k, none⟩) ckl (unhide HD (by omega) gb (by simp [blkS]))).trans ck1
        have hkn0 : decide ((k : Int) < (kn : Int)) = true := decide_eq_true (by omega)
        have hkn1 : decide (k < kn) = true := decide_eq_true hkk2
        have hkn2 : (k : Int) < (kn : Int) := by omega
        unfold maxLen at hml
        clear hc ck1 ckl
        cases hkb : kb k
        · rw [hkb] at ck4
          have hP6 : Hid (MP wr p n (some ⟨gk, 0, none⟩) ck sn cn (some ⟨gw, 0, none⟩) cw ⟨D.now, kfS (keptB kn kb) D.kept D.ws (k + 1), D.ws, D.pw⟩) := by rw [unhide SKIP (by simp [keptB, hkb])]; exact unhide HP
          clear HP w0 w1 k0 kf
          go_wp2
          go_roundw
          case rel => exact ⟨k + 1, by go_num, by omega, hP6, HB⟩
          case measure => simp [intOf]; omega
        · rw [hkb] at ck4
          go_upto_region 4 with fail
          have hgp : gw ≠ gk ∧ p ≠ gk := by
            obtain ⟨a1, a2, a3, a4, a5, a6⟩ := (unhide HP).apart
            exact ⟨fun e => a5 gk (by simp [blkS]) (by simp [blkS, e]), fun e => a1 gk (by simp [blkS]) e.symm⟩
          have hst : wr.cell? ⟨gk, x.1, none⟩ = some (.string (kfS (keptB kn kb) D.kept D.ws k x.1)) := by
            rw [(unhide HP).kept.cellAt x.1 (by omega)]
            exact strL_at _ _ _ hX1
          have hfr : wr.frozen? ⟨gk, x.1, none⟩ = false := (unhide HP).kept.frozenAt x.1
          have hi0 : (0 : Int) ≤ (x.1 : Int) := by omega
          have hi1 : (x.1 : Int) < (n : Int) := by omega
          have KS := hide (fun (w' : World) (h : w'.cell? ⟨p, 0, none⟩ = some (.slice (some ⟨gk, 0, none⟩) n ck) ∧ w'.cell? ⟨p, 2, none⟩ = some (.slice (some ⟨gw, 0, none⟩) D.ws.length cw) ∧ w'.cell? ⟨gw, k * 2, none⟩ = some (.int .i64 (x.1 : Int)) ∧ w'.cell? ⟨gw, k * 2 + 1, none⟩ = some (.string x.2)) =>
            show (w'.setCell ⟨gk, x.1, none⟩ (.string x.2)).cell? ⟨p, 0, none⟩ = some (.slice (some ⟨gk, 0, none⟩) n ck) ∧ (w'.setCell ⟨gk, x.1, none⟩ (.string x.2)).cell? ⟨p, 2, none⟩ = some (.slice (some ⟨gw, 0, none⟩) D.ws.length cw) ∧ (w'.setCell ⟨gk, x.1, none⟩ (.string x.2)).cell? ⟨gw, k * 2, none⟩ = some (.int .i64 (x.1 : Int)) ∧ (w'.setCell ⟨gk, x.1, none⟩ (.string x.2)).cell? ⟨gw, k * 2 + 1, none⟩ = some (.string x.2) from
            ⟨(World.cell?_setCell_other _ _ _ _ (fun e => by injection e with e; exact hgp.2 e.symm)).trans h.1, (World.cell?_setCell_other _ _ _ _ (fun e => by injection e with e; exact hgp.2 e.symm)).trans h.2.1, (World.cell?_setCell_other _ _ _ _ (fun e => by injection e with e; exact hgp.1 e.symm)).trans h.2.2.1, (World.cell?_setCell_other _ _ _ _ (fun e => by injection e with e; exact hgp.1 e.symm)).trans h.2.2.2⟩)
          go_region_held (fun w' => w'.cell? ⟨p, 0, none⟩ = some (.slice (some ⟨gk, 0, none⟩) n ck) ∧ w'.cell? ⟨p, 2, none⟩ = some (.slice (some ⟨gw, 0, none⟩) D.ws.length cw) ∧ w'.cell? ⟨gw, k * 2, none⟩ = some (.int .i64 (x.1 : Int)) ∧ w'.cell? ⟨gw, k * 2 + 1, none⟩ = some (.string x.2)) (first | exact unhide KS _ (by assumption) | go_keep) (fail)
          clear KS
          have hP5 : Hid (MP ((wr.setCell ⟨gk, x.1, none⟩ (.string x.2)).drew) p n (some ⟨gk, 0, none⟩) ck sn cn (some ⟨gw, 0, none⟩) cw ⟨D.now, kfS (keptB kn kb) D.kept D.ws (k + 1), D.ws, D.pw⟩) := by
            have h1 := (MP.setKept (D := ⟨D.now, kfS (keptB kn kb) D.kept D.ws k, D.ws, D.pw⟩) (unhide HP) x.1 hX1 x.2).keep (w' := (wr.setCell ⟨gk, x.1, none⟩ (.string x.2)).drew) (fun _ _ => rfl)
            have e : kfS (keptB kn kb) D.kept D.ws (k + 1) = updS (kfS (keptB kn kb) D.kept D.ws k) (wat D.ws k).1 (wat D.ws k).2 := by
              show (if keptB kn kb k then _ else _) = _
              rw [show keptB kn kb k = true by simp [keptB, hkb, hkk2]]; rfl
            rw [e]
            rw [unhide HX] at h1 ⊢
            exact h1
          have hB5 : Hid (But (· ∈ p :: ((blkS (some ⟨gk, 0, none⟩)).toList ++ ((blkS sn).toList ++ (blkS (some ⟨gw, 0, none⟩)).toList))) w2 ((wr.setCell ⟨gk, x.1, none⟩ (.string x.2)).drew)) := ((unhide HB).setCell (p := ⟨gk, x.1, none⟩) (by simp [blkS]) _).drew
          clear HP HB w0 w1 k0 k2 kq kf hst hfr ck4
          generalize (wr.setCell ⟨gk, x.1, none⟩ (.string x.2)).drew = w5 at *
          go_wp2
          go_roundw
          case rel => exact ⟨k + 1, by go_num, by omega, hP5, hB5⟩
          case measure => simp [intOf]; omega
      · have hkn0 : decide ((k : Int) < (kn : Int)) = false := decide_eq_false (by omega)
        have hkn1 : decide (k < kn) = false := decide_eq_false hkk2
        have hP6 : Hid (MP wr p n (some ⟨gk, 0, none⟩) ck sn cn (some ⟨gw, 0, none⟩) cw ⟨D.now, kfS (keptB kn kb) D.kept D.ws (k + 1), D.ws, D.pw⟩) := by rw [unhide SKIP (by simp [keptB, hkk2])]; exact unhide HP
        clear HP w0 w1 k0 kf
        go_wp2
        go_roundw
        case rel => exact ⟨k + 1, by go_num, by omega, hP6, HB⟩
        case measure => simp [intOf]; omega
    · obtain rfl : k = D.ws.length := by omega
      have dk : decide ((D.ws.length : Int) < (D.ws.length : Int)) = false := by simp
      have f1 := kf 1
      have f2 := kf 2
      have f3 := kf 3
      have hnews := hide (strL_news (unhide HP).kept)
      have HL := hide (strL_length (kfS (keptB kn kb) D.kept D.ws D.ws.length) n)
      have H1 := hide (strL_one (kfS (keptB kn kb) D.kept D.ws D.ws.length) n)
      obtain ⟨i0, hi7, hz0, hz1, hz2⟩ := info_parts str_info
      clear HP2 HB2 kf
      have k3 : ∃ v3, wr.cell? ⟨p, 3, none⟩ = some v3 := ⟨_, k3⟩
      obtain ⟨v3, k3⟩ := k3
      obtain ⟨xs, HXS⟩ : ∃ xs, Hid (xs = strL (kfS (keptB kn kb) D.kept D.ws D.ws.length) n) := ⟨_, rfl⟩
      have hnews : Hid (∀ j u, xs[j]? = some u → wr.cell? ((⟨gk, 0, none⟩ : Addr).add j) = some u) := by rw [unhide HXS]; exact unhide hnews
      rw [← unhide HXS] at HL H1
      go_wp2_with (at_builtin; refine wpList_append_lies _ rfl (.tmp 47) (.tmp 51) 41 rfl wr.heap.size 9 i0 _ 1 16 Tryd.underlying41 hi7 hz0 hz1 hz2 rfl (by omega) (.slice none 0 0) 0 [] rfl (World.ownsRow_nil _ _ _ _) ⟨gk, 0, none⟩ n ck xs rfl (by rw [unhide HL, Nat.mul_one]) (unhide hnews) (unhide H1) (by omega) ?qc2 ?qc3 (Nat.le_refl _) _ rfl ?_)
      case qc2 => unfold maxLen; omega
      case qc3 => omega
      intro g cap w6 hown hgrow hat hlt6
      have hg : wr.heap.size = g := by
        rcases hat with e | e
        · simp [Value.ownBlock] at e
        · exact e.symm
      have hb6 : Below wr.heap.size wr w6 := (Below.refl _ _).grown hgrow (Nat.le_refl _) (fun k e => by simp [Value.ownBlock] at e)
      rw [unhide HXS] at hown
      have HP7 := hide ((unhide HP).crashed hb6 g cap (by omega) (own_rebase hown (Nat.zero_le _)))
      have k61 := (hb6.cell (p := ⟨p, 1, none⟩) kq).trans k1
      have k62 := (hb6.cell (p := ⟨p, 2, none⟩) kq).trans k2
      have k63 := (hb6.cell (p := ⟨p, 3, none⟩) kq).trans k3
      have f61 := (hb6.frozen (p := ⟨p, 1, none⟩) kq).trans f1
      have f62 := (hb6.frozen (p := ⟨p, 2, none⟩) kq).trans f2
      have f63 := (hb6.frozen (p := ⟨p, 3, none⟩) kq).trans f3
      clear hown hgrow hat hb6 k0 k1 k2 k3 kq f1 f2 f3 hg HP
      go_wp2
      first | (refine bodyPost_ret (results_none rfl _ _ _) rfl ?_) | (refine bodyPost_end (results_none rfl _ _ _) rfl ?_)
      obtain ⟨hq7, hm7⟩ := unhide HP7
      exact ⟨rfl, _, ⟨some ⟨gk, 0, none⟩, ck, some ⟨g, 0, none⟩, cap, none, 0, rfl, hq7⟩, Mv.trans ⟨unhide HB, fun _ h => .inl h⟩ hm7⟩
end Go.Proofs.YthkecbgifajmmaaDoor
