/- Walk: the document's packing of numbers. -/
import Derived.Test.YtjcoahahponabaaGreatDoorMh26
namespace Go.Proofs.YtjcoahahponabaaGreatDoor
open Go.RowKit Lz
open Ps (Pc len val Fit)

set_option maxHeartbeats 4000000 in
set_option maxRecDepth 100000 in
theorem lzwOf_any (W : Nat) (s : ByteArray) (w : World) (hW2 : 2 ≤ W) (hW : W ≤ 8) (hs : s.size ≤ 3000) (hb : ∀ x ∈ s.data.toList, x.toNat < 2 ^ W) :
    Calls Tryz.prog 68 #[.string s, .int .i64 (W : Int)] w fun e w' => e = .returned (.string (textP (packAll W s.data.toList))) ∧ Below w.heap.size w w' := by
  obtain ⟨S0, hS0⟩ : ∃ q, q = s.data.toList := ⟨_, rfl⟩
  have hsl : S0.length = s.size := by rw [hS0]; simp
  obtain ⟨X, hX⟩ : ∃ X, X = 2 ^ W := ⟨_, rfl⟩
  have hp := pow_bits0 W hW2 hW
  have hX4 : 4 ≤ X := by omega
  have hX256 : X ≤ 256 := by omega
  have hXw := shl_wrapK W (by omega)
  have hXu := shl_u32K W (by omega)
  rw [← hX] at hXw hXu
  have hW64 : decide ((W : Int) < 64) = true := by simp; omega
  have hW32 : decide ((W : Int) < 32) = true := by simp; omega
  have HL0 := hide (fun w => low_any X (W + 1) w (by omega) (by omega))
  have HHb := hide hb
  have HS0 := hide hS0
  have HX := hide hX
  have zW1 : ((W + 1 : Nat) : Int) = (W : Int) + 1 := by omega
  rw [zW1] at HL0
  have HLow := hide (fun (n d : Nat) (w : World) (h1 : n < 4294967296) (h2 : d ≤ 32) => low_any n d w h1 h2)
  rw [← hS0]
  clear hb hS0 hX hp zW1
  go_enter Tryz.func68, Tryz.ntmps68
  go_wp2_with fail
  refine (unhide HL0 _).mono ?_; rintro e w1 ⟨rfl, hb1⟩
  obtain ⟨vB, w2, hcv, hO2, hb2⟩ := to_bytesM w1 (bt (W + 1) X) (by rw [bt_size]; unfold maxLen; omega)
  rw [bt_list] at hO2
  have HB2 := hide (hb1.trans (hb2.mono hb1.size))
  have hO3 : OwnM w2 w.heap.size vB (Bt.bl (len [(X, W + 1)]) (val [(X, W + 1)])) := by
    have := hO2.mono hb1.size
    simpa [len, val] using this
  have HM2 : Hid (DM w2 w.heap.size W vB (.slice none 0 0) [] [(X, W + 1)]) := ⟨hO3, World.ownsRow_nil w2 _ _ 2, fun k _ e => by simp [Value.ownBlock] at e⟩
  have HD2 : Hid (DSt W S0 [] [] (W + 1) 0 [(X, W + 1)]) := by show DSt _ _ _ _ _ _ _; rw [unhide HX]; exact DSt.start hW2 hW
  obtain ⟨aB, cB, rfl⟩ := hO2.shape
  rw [Bt.bl_length] at hcv HM2
  have hbz2 : w.heap.size ≤ w2.heap.size := (unhide HB2).size
  clear hO2 hO3 hb1 hb2 HL0
  go_wp2
  clear hcv
  try rw [hXw]
  go_loopw [5, 6, 7, 8, 9] (fun zv bv lv nv av wr => ∃ (P : List (Nat × Nat)) (T : List (List UInt8)) (ls : List Pc) (S k nB cB nL cL : Nat) (aB aL : Option Addr), zv = .int .i64 (S : Int) ∧ bv = .slice aB nB cB ∧ lv = .slice aL nL cL ∧ nv = .int .i64 ((X + 2 + nL : Nat) : Int) ∧ av = .int .i64 (k : Int) ∧ k ≤ s.size ∧ S ≤ 12 ∧ nL ≤ 4095 ∧ Hid (nL = T.length) ∧ Hid (DSt W S0 P T S k ls) ∧ Hid (DM wr w.heap.size W (.slice aB nB cB) (.slice aL nL cL) T ls) ∧ Hid (Below w.heap.size w wr) ∧ w.heap.size ≤ wr.heap.size ∧ Hid (k = s.size → s.size = 0 ∧ S = W + 1 ∧ ls = [(X, W + 1)])) (fun _ _ _ _ av _ => s.size - (intOf av).toNat)
  case atStart => exact ⟨[], [], [(X, W + 1)], W + 1, 0, W + 1, cB, 0, 0, aB, none, by go_num, rfl, rfl, by go_num, rfl, by omega, by omega, by omega, rfl, HD2, HM2, HB2, hbz2, fun h => ⟨h.symm, rfl, rfl⟩⟩
  case round =>
    clear HM2 HD2 HB2 hbz2
    obtain ⟨P, T, ls, S, k, nB, cB, nL, cL, aB, aL, rfl, rfl, rfl, rfl, rfl, hks, hS12, hnL4, HnL, HD, HM, HB, hwz, HE⟩ := hrel
    by_cases hlt : k < s.size
    · have d1 : decide ((k : Int) < (s.size : Int)) = true := by simp; omega
      have d1' : decide (k < s.size) = true := by simp; omega
      have hki : (k : Int) < (s.size : Int) := by omega
      obtain ⟨b, hbd⟩ : ∃ b, b = s[k] := ⟨_, rfl⟩
      obtain ⟨r, hrd⟩ : ∃ r, r = S0.drop (k + 1) := ⟨_, rfl⟩
      have hdr : S0.drop k = b :: r := by rw [unhide HS0, drop_one s k hlt, hbd, hrd, unhide HS0]
      have hbm : b ∈ s.data.toList := List.mem_of_mem_drop (i := k) (by rw [← unhide HS0, hdr]; simp)
      have hbX : b.toNat < 2 ^ W := unhide HHb b hbm
      obtain ⟨x1, hx1⟩ : ∃ x1, x1 = s.extract k (k + 1) := ⟨_, rfl⟩
      have hx1l : x1.data.toList = [b] := by rw [hx1, one_text s k hlt, hbd]
      have hx1e : s.extract k (k + 1) = x1 := hx1.symm
      obtain ⟨n, hn⟩ : ∃ n, n = b.toNat := ⟨_, rfl⟩
      have hsn : s[k].toNat = n := by rw [hn, hbd]
      have hn256 : n < 256 := by rw [hn]; exact b.toNat_lt
      have HDR := hide hdr
      have HBX := hide hbX
      have HX1 := hide hx1l
      have HN := hide hn
      have hk3 : k ≤ 3000 := by omega
      clear hbd hrd hdr hbm hbX hx1 hx1l hn
      go_wp2_with fail
      go_region
      have bz : Below wr.heap.size wr (wr.alloc (.cells #[.string x1, .int .i64 (n : Int)] 149)).drew := ((Below.refl _ _).alloc (Nat.le_refl _) _).drew
      have q0 : (wr.alloc (.cells #[.string x1, .int .i64 (n : Int)] 149)).drew.cell? ⟨wr.heap.size, 0, none⟩ = some (.string x1) := two_newA wr _ _ _
      have q1 : (wr.alloc (.cells #[.string x1, .int .i64 (n : Int)] 149)).drew.cell? ⟨wr.heap.size, 1, none⟩ = some (.int .i64 (n : Int)) := two_newB wr _ _ _
      have f0 : (wr.alloc (.cells #[.string x1, .int .i64 (n : Int)] 149)).drew.frozen? ⟨wr.heap.size, 0, none⟩ = false := two_newF wr _ _ _ 0
      have f1 : (wr.alloc (.cells #[.string x1, .int .i64 (n : Int)] 149)).drew.frozen? ⟨wr.heap.size, 1, none⟩ = false := two_newF wr _ _ _ 1
      have hz7 : (wr.alloc (.cells #[.string x1, .int .i64 (n : Int)] 149)).drew.heap.size = wr.heap.size + 1 := by show (wr.alloc _).heap.size = _; simp
      have HM7 := hide ((unhide HM).below bz)
      have HB7 := hide ((unhide HB).trans (bz.mono hwz))
      have hnb : (Value.slice aB nB cB).ownBlock ≠ some wr.heap.size := fun e => by have := ((unhide HM).bits.lt _ e).2; omega
      have hnl : (Value.slice aL nL cL).ownBlock ≠ some wr.heap.size := fun e => by have := ((unhide HM).list.lt _ e).2; omega
      generalize (wr.alloc (.cells #[.string x1, .int .i64 (n : Int)] 149)).drew = w7 at *
      generalize wr.heap.size = p at *
      have Hnb := hide hnb
      have Hnl := hide hnl
      have HSR : Hid (Srch W P T (b :: r) 0 n) := by rw [unhide HN]; exact Srch.start b r (unhide HBX)
      have HY0 : Hid (x1.data.toList = textOf W T n) := by show _ = _; rw [unhide HN, textOf_one b (unhide HBX)]; exact unhide HX1
      have HlenT : Hid (∀ j, j < nL → (T.getD j []).length ≤ k + 1) := fun j hj => (unhide HD).texts j (by rw [← unhide HnL]; exact hj)
      have hrl : (b :: r).length = s.size - k := by rw [← unhide HDR, List.length_drop, hsl]
      have Hrl := hide hrl
      clear hnb hnl bz hrl HM HB hx1e hsn
      go_wp2
      go_loopw [11] (fun iv wq => ∃ (i d : Nat) (y : ByteArray), iv = .int .i64 (i : Int) ∧ i ≤ nL ∧ wq.cell? ⟨p, 0, none⟩ = some (.string y) ∧ wq.cell? ⟨p, 1, none⟩ = some (.int .i64 (d : Int)) ∧ wq.frozen? ⟨p, 0, none⟩ = false ∧ wq.frozen? ⟨p, 1, none⟩ = false ∧ y.size ≤ 3001 ∧ Hid (Srch W P T (b :: r) i d) ∧ Hid (y.data.toList = textOf W T d) ∧ Hid (But (· = p) w7 wq)) (fun iv _ => nL - (intOf iv).toNat)
      case atStart => exact ⟨0, n, x1, rfl, by omega, q0, q1, f0, f1, by have := size_of x1 (unhide HX1); simp at this; omega, HSR, HY0, But.refl _ _⟩
      case round =>
        clear q0 q1 f0 f1 HSR HY0
        obtain ⟨i, d, y, rfl, hin, q0, q1, f0, f1, hy1, HSR, HY, HBt⟩ := hrel
        by_cases hlti : i < nL
        · have e1 : decide ((i : Int) < (nL : Int)) = true := by simp; omega
          have e1' : decide (i < nL) = true := by simp; omega
          have hii : (i : Int) < (nL : Int) := by omega
          obtain ⟨g, rfl, c0, c1⟩ := (unhide HM7).word (unhide HnL) i hlti
          have hgp : ¬ g = p := fun e => unhide Hnl (by rw [← e]; rfl)
          have hgl : g < w7.heap.size := World.block_lt_of_cell? _ _ c0
          have c0' := ((unhide HBt).cell (p := ⟨g, i * 2, none⟩) hgl hgp).trans c0
          have c1' := ((unhide HBt).cell (p := ⟨g, i * 2 + 1, none⟩) hgl hgp).trans c1
          obtain ⟨u, hu⟩ : ∃ u : ByteArray, u = ⟨(T.getD i []).toArray⟩ := ⟨_, rfl⟩
          rw [← hu] at c0'
          rw [← unhide HX] at c1'
          have hul : u.data.toList = T.getD i [] := by rw [hu]
          have hus : u.size = (T.getD i []).length := size_of u hul
          have hul1 : u.size ≤ 3001 := by rw [hus]; have := unhide HlenT i hlti; omega
          have hys : y.size = (textOf W T d).length := size_of y (unhide HY)
          have HHu := hide hul
          have Hus := hide hus
          have Hys := hide hys
          clear c0 c1 hu hul hus hys
          by_cases t1 : y.size < u.size
          · have g1 : decide ((u.size : Int) > (y.size : Int)) = true := by simp; omega
            have g1' : decide ((y.size : Int) < (u.size : Int)) = true := g1
            have g1n : decide (y.size < u.size) = true := by simp; omega
            by_cases t2 : k + u.size ≤ s.size
            · have g2 : decide ((k : Int) + (u.size : Int) ≤ (s.size : Int)) = true := by simp; omega
              have g2n : decide (k + u.size ≤ s.size) = true := by simp; omega
              have g2i : (k : Int) + (u.size : Int) ≤ (s.size : Int) := by omega
              have g2j : (k : Int) ≤ (k : Int) + (u.size : Int) := by omega
              have hex : (s.extract k (k + u.size)).data.toList = (b :: r).take u.size := by
                rw [mid_text, ← unhide HS0, unhide HDR]
              have hlen : (T.getD i []).length ≤ (b :: r).length := by rw [← unhide Hus, unhide Hrl]; omega
              by_cases t3 : s.extract k (k + u.size) = u
              · have g3 : ((s.extract k (k + u.size)).toList == u.toList) = true := by rw [t3]; simp
                have HSN : Hid (Srch W P T (b :: r) (i + 1) (2 ^ W + 2 + i)) := (unhide HSR).take_ (by have := (unhide HD).trie.many; have := unhide HnL; omega) (by rw [← unhide Hys, ← unhide Hus]; exact t1) hlen (by rw [← unhide Hus, ← hex, t3]; exact (unhide HHu).symm)
                have HYN : Hid (u.data.toList = textOf W T (X + 2 + i)) := by show _ = _; rw [unhide HX, textOf_long]; exact unhide HHu
                rw [← unhide HX] at HSN
                clear t1 t2 t3 hex hlen
                go_wp2
                go_roundw
                case rel =>
                  refine ⟨i + 1, X + 2 + i, u, by go_num, by omega, ?_, ?_, ?_, ?_, hul1, HSN, HYN, ?_⟩
                  · simp [go_sem, q0]
                  · simp [go_sem, q1]
                  · simp [go_sem, f0]
                  · simp [go_sem, f1]
                  · exact ((unhide HBt).setCell (p := ⟨p, 0, none⟩) rfl _).setCell (p := ⟨p, 1, none⟩) rfl _
                case measure => simp [intOf]; omega
              · have g3 : ((s.extract k (k + u.size)).toList == u.toList) = false := by
                  rw [beq_eq_false_iff_ne]
                  intro q
                  exact t3 (text_ext (by rw [← ByteArray.toList_eq, ← ByteArray.toList_eq]; exact q))
                have HSN : Hid (Srch W P T (b :: r) (i + 1) d) := (unhide HSR).skip (fun q => t3 (text_ext (by rw [hex, unhide HHu, unhide Hus]; exact q.2.2.symm)))
                clear t1 t2 t3 hex hlen
                go_wp2
                go_roundw
                case rel => exact ⟨i + 1, d, y, by go_num, by omega, q0, q1, f0, f1, hy1, HSN, HY, HBt⟩
                case measure => simp [intOf]; omega
            · have g2 : decide ((k : Int) + (u.size : Int) ≤ (s.size : Int)) = false := by simp; omega
              have g2n : decide (k + u.size ≤ s.size) = false := by simp; omega
              have HSN : Hid (Srch W P T (b :: r) (i + 1) d) := (unhide HSR).skip (fun q => by have h1 := q.2.1; rw [← unhide Hus, unhide Hrl] at h1; omega)
              clear t1 t2
              go_wp2
              go_roundw
              case rel => exact ⟨i + 1, d, y, by go_num, by omega, q0, q1, f0, f1, hy1, HSN, HY, HBt⟩
              case measure => simp [intOf]; omega
          · have g1 : decide ((u.size : Int) > (y.size : Int)) = false := by simp; omega
            have g1' : decide ((y.size : Int) < (u.size : Int)) = false := g1
            have g1n : decide (y.size < u.size) = false := by simp; omega
            have HSN : Hid (Srch W P T (b :: r) (i + 1) d) := (unhide HSR).skip (fun q => by have h1 := q.1; rw [← unhide Hus, ← unhide Hys] at h1; omega)
            clear t1
            go_wp2
            go_roundw
            case rel => exact ⟨i + 1, d, y, by go_num, by omega, q0, q1, f0, f1, hy1, HSN, HY, HBt⟩
            case measure => simp [intOf]; omega
        · obtain rfl : i = nL := by omega
          have e1 : decide ((i : Int) < (i : Int)) = false := by simp
          have hPT : P.length = T.length := (unhide HD).trie.many.symm
          have hSR : Srch W P T (b :: r) P.length d := by rw [hPT, ← unhide HnL]; exact unhide HSR
          have hbN : b.toNat = n := (unhide HN).symm
          obtain ⟨hfd, hfl⟩ := hSR.found hW (unhide HD).trie (unhide HD).nodup (unhide HBX)
          have hys : y.size = (goOn W P b.toNat r).2 + 1 := by rw [size_of y (unhide HY), hfl]
          have hgl := goOn_le W P r b.toNat
          obtain ⟨m, hm⟩ : ∃ m, m = (goOn W P b.toNat r).2 := ⟨_, rfl⟩
          rw [← hm] at hys hgl
          have hrl2 : r.length + 1 = s.size - k := by have := unhide Hrl; rw [List.length_cons] at this; exact this
          have hN : X + 2 + i = 2 ^ W + 2 + P.length := by rw [unhide HX, hPT, ← unhide HnL]
          have hfull := (unhide HD).trie.full
          have hs1 := (unhide HD).size1
          have hs3 := (unhide HD).size3
          have hln := (unhide HD).long
          have HFIT : Hid (Fit ls) := (unhide HD).fit
          have hdS : d < 2 ^ S := by
            rw [hfd]
            by_cases hend : m = r.length
            · exact ((unhide HD).last (unhide HDR) (unhide HBX) (by rw [← hm]; exact hend)).2.1
            · obtain ⟨c, r', hcr⟩ : ∃ c r', r.drop m = c :: r' := by
                cases hq : r.drop m with
                | nil => have := congrArg List.length hq; rw [List.length_drop, List.length_nil] at this; omega
                | cons c r' => exact ⟨c, r', rfl⟩
              exact ((unhide HD).next hW2 hW (by rw [unhide HS0]; exact unhide HHb) (unhide HDR) (by rw [← hm]; exact hcr)).1
          have hp12 := pow12 S hS12
          have hd4 : d < 4096 := by omega
          have hMx := (unhide HM7).but (unhide HBt) (unhide Hnb) (unhide Hnl)
          have hBtb := unhide HBt
          have hBxx : Below w.heap.size w wr := (unhide HB7).trans (hBtb.below (by omega) (fun q hq e => by omega))
          have HLc := hide (unhide HLow d S wr (by omega) (by omega))
          have HMx := hide hMx
          have HBx := hide hBxx
          have hxz : w.heap.size ≤ wr.heap.size := hBxx.size
          have hpx : p < wr.heap.size := World.block_lt_of_cell? _ _ q0
          have HFD := hide hfd
          have Hm := hide hm
          have HNN := hide hN
          have Hys := hide hys
          clear hSR hfd hfl hMx hBtb hBxx hm hN hys HSR HBt f0 f1
          go_wp2_with fail
          refine (unhide HLc).mono ?_; rintro e wa ⟨rfl, hba⟩
          have HMa := hide ((unhide HMx).below hba)
          have HBa := hide ((unhide HBx).trans (hba.mono hxz))
          have haz : w.heap.size ≤ wa.heap.size := (unhide HBa).size
          have q0a := (hba.cell (p := ⟨p, 0, none⟩) hpx).trans q0
          have q1a := (hba.cell (p := ⟨p, 1, none⟩) hpx).trans q1
          have hpa : p < wa.heap.size := Nat.lt_of_lt_of_le hpx hba.size
          have hla : (Bt.bl (len ls) (val ls)).length + (bt S d).size ≤ 4000000 := by rw [Bt.bl_length, bt_size]; omega
          clear HLc hba q0 q1 HMx HBx hxz hpx
          go_wp2_with (at_builtin; refine wpList_appM _ rfl (.tmp 78) (.tmp 83) rfl w.heap.size (.slice aB nB cB) (Bt.bl (len ls) (val ls)) (bt S d) rfl rfl (unhide HMa).bits hla haz ?_)
          intro vb wb hob hgb hab
          rw [bt_list, bl_more (unhide HFIT) (d, S)] at hob
          obtain ⟨hMb, hbb⟩ := (unhide HMa).pushB hob hgb hab haz
          have HMb := hide hMb
          have HBb := hide ((unhide HBa).trans hbb)
          have hbz : w.heap.size ≤ wb.heap.size := (unhide HBb).size
          have q0b := hgb.cell q0a (fun e => unhide Hnb e.symm)
          obtain ⟨aE, cE, hvE⟩ := hob.shape
          obtain ⟨nE, hnE⟩ : ∃ nE, nE = (Bt.bl (len (ls ++ [(d, S)])) (val (ls ++ [(d, S)]))).length := ⟨_, rfl⟩
          rw [← hnE] at hvE
          subst hvE
          have HFI2 : Hid (Fit (ls ++ [(d, S)])) := Ps.Fit.append (unhide HFIT) (Ps.Fit.cons hdS Ps.Fit.nil)
          have hlen2 : len (ls ++ [(d, S)]) = len ls + S := by rw [Ps.len_append]; simp [len]
          clear hob hgb hab hMb hbb HMa HBa q0a q1a hnE
          have hyM := unhide Hys
          obtain ⟨k2, hk2⟩ : ∃ k2, k2 = k + y.size := ⟨_, rfl⟩
          have zk2 : (k : Int) + (y.size : Int) = (k2 : Int) := by omega
          have hk2s : k2 ≤ s.size := by omega
          obtain ⟨Y, hY⟩ : ∃ Y, Y = 2 ^ S := ⟨_, rfl⟩
          have hYw := shl_wrapK S hS12
          rw [← hY] at hYw hs1 hp12
          have hS64 : decide ((S : Int) < 64) = true := by simp; omega
          obtain ⟨S2, hS2⟩ : ∃ S2, S2 = size' S (2 ^ W + 2 + P.length) := ⟨_, rfl⟩
          have HS2 := hide hS2
          have HY2 := hide hY
          have Hk2 : Hid (k2 = k + (m + 1)) := by show _ = _; omega
          have Hrl2 := hide hrl2
          have Hgl := hide hgl
          have Hln2 := hide hlen2
          have hkk2 : k < k2 := by omega
          clear hS2 hY hk2 hPT hyM hrl2 hgl hlen2 hdS hd4 hs1
          by_cases hgr : X + 2 + i = Y ∧ S < 12
          · have hSS : S2 = S + 1 := by rw [unhide HS2, ← unhide HNN]; unfold size'; rw [if_pos ⟨by rw [hgr.1, unhide HY2], hgr.2⟩]
            have g5 := eq_pow hYw hgr.1
            have g5n := eq_powA hYw hgr.1
            have g5y := eq_natA hgr.1
            have hS12' := hgr.2
            have g6 : decide ((S : Int) < 12) = true := decide_eq_true (by omega)
            subst hSS
            have hS2l : S + 1 ≤ 12 := by omega
            clear hgr
            by_cases hend : m = r.length
            · have hk2e : k2 = s.size := by have := unhide Hk2; have := unhide Hrl2; omega
              obtain ⟨hT1, _, hT3⟩ := (unhide HD).last (unhide HDR) (unhide HBX) (by rw [← unhide Hm]; exact hend)
              rw [← unhide HFD, ← unhide HS2, ← unhide HX] at hT1
              rw [← unhide HS2, ← unhide HX] at hT3
              have HTOLD := hide hT1
              have Hlast := hide hT3
              have hlen3 : len (ls ++ [(d, S)]) + 24 ≤ 100000 := by have := unhide Hln2; omega
              have g7 : ((k2 : Int) == (s.size : Int)) = true := by simp; omega
              clear hT1 hT3 HD hend hk2e hkk2 hln hfull hs3
              have HX1L := hide (unhide HLow (X + 1) (S + 1) wb (by omega) (by omega))
              go_wp2_with fail
              refine (unhide HX1L).mono ?_; rintro e wf ⟨rfl, hbf⟩
              have HMf := hide ((unhide HMb).below hbf)
              have HBf := hide ((unhide HBb).trans (hbf.mono hbz))
              have hfz : w.heap.size ≤ wf.heap.size := (unhide HBf).size
              have hlf : (Bt.bl (len (ls ++ [(d, S)])) (val (ls ++ [(d, S)]))).length + (bt (S + 1) (X + 1)).size ≤ 4000000 := by rw [Bt.bl_length, bt_size]; omega
              clear HX1L hbf HMb HBb
              go_wp2_with (at_builtin; refine wpList_appM _ rfl (.tmp 133) (.tmp 138) rfl w.heap.size (.slice aE nE cE) (Bt.bl (len (ls ++ [(d, S)])) (val (ls ++ [(d, S)]))) (bt (S + 1) (X + 1)) rfl rfl (unhide HMf).bits hlf hfz ?_)
              intro vg wg hog hgg hag
              rw [bt_list, bl_more (unhide HFI2) (X + 1, (S + 1))] at hog
              obtain ⟨hMg, hbg⟩ := (unhide HMf).pushB hog hgg hag hfz
              have HBg := hide ((unhide HBf).trans hbg)
              have hcv := hog.text
              rw [← unhide HTOLD] at hcv
              have HPK : Hid (∀ w' : World, Calls Tryz.prog 97 #[.string ⟨(Bt.bl (len (packAll W S0)) (val (packAll W S0))).toArray⟩] w' fun e w'' => e = .returned (.string (textP (packAll W S0))) ∧ Below w'.heap.size w' w'') := fun w' => by
                have hfp : Fit (packAll W S0) := by
                  rw [unhide HTOLD]
                  exact Ps.Fit.append (unhide HFI2) (Ps.Fit.cons (unhide Hlast) Ps.Fit.nil)
                exact packed_any (len (packAll W S0)) (val (packAll W S0)) w' (Ps.val_lt hfp) (by rw [unhide HTOLD, Ps.len_append]; simp only [len]; omega)
              obtain ⟨ag, cg, hvg⟩ := hog.shape
              obtain ⟨ng, hng⟩ : ∃ ng, ng = (Bt.bl (len ((ls ++ [(d, S)]) ++ [(X + 1, (S + 1))])) (val ((ls ++ [(d, S)]) ++ [(X + 1, (S + 1))]))).length := ⟨_, rfl⟩
              rw [← hng] at hvg
              subst hvg
              generalize (⟨(Bt.bl (len (packAll W S0)) (val (packAll W S0))).toArray⟩ : ByteArray) = txt at *
              clear hog hgg hag hMg hbg HMf HBf hng
              go_wp2_with fail
              refine (unhide HPK _).mono ?_; rintro e wh ⟨rfl, hbh⟩
              have HBh := hide ((unhide HBg).trans (hbh.mono (unhide HBg).size))
              clear hcv hbh HBg HPK
              go_wp2
              go_ret
              exact ⟨rfl, unhide HBh⟩
            · obtain ⟨c, r', hcr⟩ : ∃ c r', r.drop m = c :: r' := by
                cases hq : r.drop m with
                | nil => have := congrArg List.length hq; rw [List.length_drop, List.length_nil] at this; have := unhide Hgl; omega
                | cons c r' => exact ⟨c, r', rfl⟩
              obtain ⟨_, hnx, hfu⟩ := (unhide HD).next hW2 hW (by rw [unhide HS0]; exact unhide HHb) (unhide HDR) (by rw [← unhide Hm]; exact hcr)
              rw [← unhide HFD, ← unhide HS2, ← unhide Hm] at hnx
              rw [← unhide HFD, ← unhide Hm] at hfu
              have hk2l : k2 < s.size := by have := unhide Hk2; have := unhide Hrl2; have := unhide Hgl; omega
              have g7 : ((k2 : Int) == (s.size : Int)) = false := by simp; omega
              have g7n : (k2 == s.size) = false := by simp; omega
              obtain ⟨x, hx⟩ : ∃ x : ByteArray, x = s.extract k (k2 + 1) := ⟨_, rfl⟩
              have hxl : x.data.toList = (b :: r).take (m + 2) := by
                rw [hx, show k2 + 1 = k + (m + 2) by have := unhide Hk2; omega, mid_text, ← unhide HS0, unhide HDR]
              have hxt : x = ⟨((b :: r).take (m + 2)).toArray⟩ := text_ext (by rw [hxl])
              have hxe : s.extract k (k2 + 1) = x := hx.symm
              have zkm : (k2 : Int) - (y.size : Int) = (k : Int) := by omega
              have hlen3 : len (ls ++ [(d, S)]) + 24 ≤ 100000 := by have := unhide Hln2; omega
              have hi1 : (k : Int) ≤ (k2 : Int) + 1 := by omega
              have hi2 : (k2 : Int) + 1 ≤ (s.size : Int) := by omega
              have hTi : T.length = i := (unhide HnL).symm
              have zc : ((X + 2 + i : Nat) : Int) = (X : Int) + 2 + (i : Int) := by omega
              have bz2 : Below wb.heap.size wb (wb.alloc (.cells #[.string x, .int .i64 ((X : Int) + 2 + (i : Int))] 149)) := (Below.refl _ _).alloc (Nat.le_refl _) _
              have hLa : (wb.alloc (.cells #[.string x, .int .i64 ((X : Int) + 2 + (i : Int))] 149)).ownsRow w.heap.size 149 2 (.slice aL i cL) T.length (lstV (2 ^ W + 2) T) := ((unhide HMb).below bz2).list
              have n0 : (wb.alloc (.cells #[.string x, .int .i64 ((X : Int) + 2 + (i : Int))] 149)).cell? ⟨wb.heap.size, 0, none⟩ = some (.string ⟨((b :: r).take (m + 2)).toArray⟩) := by rw [← hxt]; exact two_newA wb _ _ _
              have n1 : (wb.alloc (.cells #[.string x, .int .i64 ((X : Int) + 2 + (i : Int))] 149)).cell? ⟨wb.heap.size, 1, none⟩ = some (.int .i64 ((2 ^ W + 2 + T.length : Nat) : Int)) := by rw [hTi, ← unhide HX, zc]; exact two_newB wb _ _ _
              have hza : (wb.alloc (.cells #[.string x, .int .i64 ((X : Int) + 2 + (i : Int))] 149)).heap.size = wb.heap.size + 1 := by simp
              have HLA := hide hLa
              have HBZ2 := hide bz2
              have Hhx := hide hxt
              have Hfull := hide hfull
              clear hend hx hxl hxt hLa bz2 hln hfull hs3 zc
              go_wp2_with (at_builtin; refine wpList_appLs _ rfl (.tmp 104) (.tmp 116) rfl w.heap.size wb.heap.size (2 ^ W + 2) (.slice aL i cL) T ((b :: r).take (m + 2)) rfl (by first | rfl | (simp [Act.eval]; done)) (unhide HLA) n0 n1 (by omega) (by rw [hza]; omega) ?_)
              intro vc wc hoc hgc hac
              have hoc' : wc.ownsRow w.heap.size 149 2 vc (T ++ [(b :: r).take (m + 2)]).length (lstV (2 ^ W + 2) (T ++ [(b :: r).take (m + 2)])) := by first | exact hoc | (rw [List.length_append, List.length_singleton]; exact hoc) | (rw [List.length_append, List.length_singleton, hTi]; exact hoc)
              obtain ⟨hMc, hbc⟩ := (unhide HMb).pushL (unhide HBZ2) hoc' hgc (by rw [hza]; exact hac) hbz
              have HBc := hide ((unhide HBb).trans hbc)
              have hcz : w.heap.size ≤ wc.heap.size := (unhide HBc).size
              obtain ⟨aF, cF, hvF⟩ := own_shapeL hoc'
              rw [List.length_append, List.length_singleton, hTi] at hvF
              subst hvF
              have HMc := hide hMc
              have hnT : i + 1 = (T ++ [(b :: r).take (m + 2)]).length := by rw [List.length_append, List.length_singleton, hTi]
              have HnT := hide hnT
              clear hoc hoc' hgc hac hMc hbc HMb HBb HLA HBZ2 n0 n1 hza hnT
              by_cases hfl : 2 ^ W + 2 + P.length = 4095
              · obtain ⟨hc2, hDn⟩ := hfu hfl
                rw [show size' S 4095 = size' S (2 ^ W + 2 + P.length) by rw [hfl], ← unhide HS2, ← unhide HX] at hc2 hDn
                have HDn := hide hDn
                have hfX : X + 2 + i = 4095 := by have := unhide HNN; omega
                have g8 : (((X + 2 + i : Nat) : Int) + 1 == 4096) = true := by simp; omega
                have g8n : ((X : Int) + 2 + (i : Int) + 1 == 4096) = true := by simp; omega
                have HFI3 : Hid (Fit (ls ++ [(d, S)])) := unhide HFI2
                have HLd := hide (unhide HLow X (S + 1) wc (by omega) (by omega))
                clear hnx hfu hDn hfl
                go_wp2_with fail
                refine (unhide HLd).mono ?_; rintro e wd ⟨rfl, hbd⟩
                have HMd := hide ((unhide HMc).below hbd)
                have HBd := hide ((unhide HBc).trans (hbd.mono hcz))
                have hdz : w.heap.size ≤ wd.heap.size := (unhide HBd).size
                have hld : (Bt.bl (len (ls ++ [(d, S)])) (val (ls ++ [(d, S)]))).length + (bt (S + 1) X).size ≤ 4000000 := by rw [Bt.bl_length, bt_size]; omega
                clear HLd hbd HMc HBc
                go_wp2_with (at_builtin; refine wpList_appM _ rfl (.tmp 122) (.tmp 126) rfl w.heap.size (.slice aE nE cE) (Bt.bl (len (ls ++ [(d, S)])) (val (ls ++ [(d, S)]))) (bt (S + 1) X) rfl rfl (unhide HMd).bits hld hdz ?_)
                intro ve we hoe hge hae
                rw [bt_list, bl_more (unhide HFI3) (X, S + 1)] at hoe
                obtain ⟨hMe, hbe⟩ := (unhide HMd).pushB hoe hge hae hdz
                have HMe := hide hMe.none_
                have HBe := hide ((unhide HBd).trans hbe)
                have hez : w.heap.size ≤ we.heap.size := (unhide HBe).size
                obtain ⟨aG, cG, hvG⟩ := hoe.shape
                obtain ⟨nG, hnG⟩ : ∃ nG, nG = (Bt.bl (len ((ls ++ [(d, S)]) ++ [(X, S + 1)])) (val ((ls ++ [(d, S)]) ++ [(X, S + 1)]))).length := ⟨_, rfl⟩
                rw [← hnG] at hvG
                subst hvG
                clear hoe hge hae hMe hbe HMd HBd hnG
                go_wp2
                go_roundw
                case rel => exact ⟨[], [], (ls ++ [(d, S)]) ++ [(X, S + 1)], W + 1, k2, nG, cG, 0, 0, aG, none, by go_num, rfl, rfl, by go_num, rfl, by omega, by omega, by omega, rfl, by rw [show k2 = k + (m + 1) by have := unhide Hk2; omega]; exact HDn, HMe, HBe, hez, fun h => absurd h (by omega)⟩
                case measure => simp [intOf]; omega
              · have hDn := hnx hfl
                have HDn := hide hDn
                have hfX : ¬ X + 2 + i = 4095 := by have := unhide HNN; have := unhide Hfull; omega
                have g8 : (((X + 2 + i : Nat) : Int) + 1 == 4096) = false := by simp; omega
                have g8n : ((X : Int) + 2 + (i : Int) + 1 == 4096) = false := by simp; omega
                have hi95 : i + 1 ≤ 4095 := by have := unhide HNN; have := unhide Hfull; omega
                clear hnx hfu hDn hfl
                go_wp2
                go_roundw
                case rel => exact ⟨P ++ [(d, c.toNat)], T ++ [(b :: r).take (m + 2)], ls ++ [(d, S)], S + 1, k2, nE, cE, i + 1, cF, aE, aF, by go_num, rfl, rfl, by go_num, rfl, by omega, by omega, hi95, HnT, by rw [show k2 = k + (m + 1) by have := unhide Hk2; omega]; exact HDn, HMc, HBc, hcz, fun h => absurd h (by omega)⟩
                case measure => simp [intOf]; omega
          · have hSS : S2 = S := by rw [unhide HS2, ← unhide HNN]; unfold size'; rw [if_neg (fun q => hgr ⟨by rw [unhide HY2]; exact q.1, q.2⟩)]
            have hnY : ¬ X + 2 + i = Y := fun q => hgr ⟨q, by
              rcases Nat.lt_or_ge S 12 with h | h
              · exact h
              · exfalso
                have : S = 12 := by omega
                subst this
                have := unhide HY2
                have h2 := unhide HNN
                omega⟩
            have g5 := ne_pow hYw hnY
            have g5n := ne_powA hYw hnY
            have g5y := ne_natA hnY
            subst hSS
            have hS2l : S2 ≤ 12 := hS12
            clear hgr hnY
            by_cases hend : m = r.length
            · have hk2e : k2 = s.size := by have := unhide Hk2; have := unhide Hrl2; omega
              obtain ⟨hT1, _, hT3⟩ := (unhide HD).last (unhide HDR) (unhide HBX) (by rw [← unhide Hm]; exact hend)
              rw [← unhide HFD, ← unhide HS2, ← unhide HX] at hT1
              rw [← unhide HS2, ← unhide HX] at hT3
              have HTOLD := hide hT1
              have Hlast := hide hT3
              have hlen3 : len (ls ++ [(d, S2)]) + 24 ≤ 100000 := by have := unhide Hln2; omega
              have g7 : ((k2 : Int) == (s.size : Int)) = true := by simp; omega
              clear hT1 hT3 HD hend hk2e hkk2 hln hfull hs3
              have HX1L := hide (unhide HLow (X + 1) S2 wb (by omega) (by omega))
              go_wp2_with fail
              refine (unhide HX1L).mono ?_; rintro e wf ⟨rfl, hbf⟩
              have HMf := hide ((unhide HMb).below hbf)
              have HBf := hide ((unhide HBb).trans (hbf.mono hbz))
              have hfz : w.heap.size ≤ wf.heap.size := (unhide HBf).size
              have hlf : (Bt.bl (len (ls ++ [(d, S2)])) (val (ls ++ [(d, S2)]))).length + (bt S2 (X + 1)).size ≤ 4000000 := by rw [Bt.bl_length, bt_size]; omega
              clear HX1L hbf HMb HBb
              go_wp2_with (at_builtin; refine wpList_appM _ rfl (.tmp 133) (.tmp 138) rfl w.heap.size (.slice aE nE cE) (Bt.bl (len (ls ++ [(d, S2)])) (val (ls ++ [(d, S2)]))) (bt S2 (X + 1)) rfl rfl (unhide HMf).bits hlf hfz ?_)
              intro vg wg hog hgg hag
              rw [bt_list, bl_more (unhide HFI2) (X + 1, S2)] at hog
              obtain ⟨hMg, hbg⟩ := (unhide HMf).pushB hog hgg hag hfz
              have HBg := hide ((unhide HBf).trans hbg)
              have hcv := hog.text
              rw [← unhide HTOLD] at hcv
              have HPK : Hid (∀ w' : World, Calls Tryz.prog 97 #[.string ⟨(Bt.bl (len (packAll W S0)) (val (packAll W S0))).toArray⟩] w' fun e w'' => e = .returned (.string (textP (packAll W S0))) ∧ Below w'.heap.size w' w'') := fun w' => by
                have hfp : Fit (packAll W S0) := by
                  rw [unhide HTOLD]
                  exact Ps.Fit.append (unhide HFI2) (Ps.Fit.cons (unhide Hlast) Ps.Fit.nil)
                exact packed_any (len (packAll W S0)) (val (packAll W S0)) w' (Ps.val_lt hfp) (by rw [unhide HTOLD, Ps.len_append]; simp only [len]; omega)
              obtain ⟨ag, cg, hvg⟩ := hog.shape
              obtain ⟨ng, hng⟩ : ∃ ng, ng = (Bt.bl (len ((ls ++ [(d, S2)]) ++ [(X + 1, S2)])) (val ((ls ++ [(d, S2)]) ++ [(X + 1, S2)]))).length := ⟨_, rfl⟩
              rw [← hng] at hvg
              subst hvg
              generalize (⟨(Bt.bl (len (packAll W S0)) (val (packAll W S0))).toArray⟩ : ByteArray) = txt at *
              clear hog hgg hag hMg hbg HMf HBf hng
              go_wp2_with fail
              refine (unhide HPK _).mono ?_; rintro e wh ⟨rfl, hbh⟩
              have HBh := hide ((unhide HBg).trans (hbh.mono (unhide HBg).size))
              clear hcv hbh HBg HPK
              go_wp2
              go_ret
              exact ⟨rfl, unhide HBh⟩
            · obtain ⟨c, r', hcr⟩ : ∃ c r', r.drop m = c :: r' := by
                cases hq : r.drop m with
                | nil => have := congrArg List.length hq; rw [List.length_drop, List.length_nil] at this; have := unhide Hgl; omega
                | cons c r' => exact ⟨c, r', rfl⟩
              obtain ⟨_, hnx, hfu⟩ := (unhide HD).next hW2 hW (by rw [unhide HS0]; exact unhide HHb) (unhide HDR) (by rw [← unhide Hm]; exact hcr)
              rw [← unhide HFD, ← unhide HS2, ← unhide Hm] at hnx
              rw [← unhide HFD, ← unhide Hm] at hfu
              have hk2l : k2 < s.size := by have := unhide Hk2; have := unhide Hrl2; have := unhide Hgl; omega
              have g7 : ((k2 : Int) == (s.size : Int)) = false := by simp; omega
              have g7n : (k2 == s.size) = false := by simp; omega
              obtain ⟨x, hx⟩ : ∃ x : ByteArray, x = s.extract k (k2 + 1) := ⟨_, rfl⟩
              have hxl : x.data.toList = (b :: r).take (m + 2) := by
                rw [hx, show k2 + 1 = k + (m + 2) by have := unhide Hk2; omega, mid_text, ← unhide HS0, unhide HDR]
              have hxt : x = ⟨((b :: r).take (m + 2)).toArray⟩ := text_ext (by rw [hxl])
              have hxe : s.extract k (k2 + 1) = x := hx.symm
              have zkm : (k2 : Int) - (y.size : Int) = (k : Int) := by omega
              have hlen3 : len (ls ++ [(d, S2)]) + 24 ≤ 100000 := by have := unhide Hln2; omega
              have hi1 : (k : Int) ≤ (k2 : Int) + 1 := by omega
              have hi2 : (k2 : Int) + 1 ≤ (s.size : Int) := by omega
              have hTi : T.length = i := (unhide HnL).symm
              have zc : ((X + 2 + i : Nat) : Int) = (X : Int) + 2 + (i : Int) := by omega
              have bz2 : Below wb.heap.size wb (wb.alloc (.cells #[.string x, .int .i64 ((X : Int) + 2 + (i : Int))] 149)) := (Below.refl _ _).alloc (Nat.le_refl _) _
              have hLa : (wb.alloc (.cells #[.string x, .int .i64 ((X : Int) + 2 + (i : Int))] 149)).ownsRow w.heap.size 149 2 (.slice aL i cL) T.length (lstV (2 ^ W + 2) T) := ((unhide HMb).below bz2).list
              have n0 : (wb.alloc (.cells #[.string x, .int .i64 ((X : Int) + 2 + (i : Int))] 149)).cell? ⟨wb.heap.size, 0, none⟩ = some (.string ⟨((b :: r).take (m + 2)).toArray⟩) := by rw [← hxt]; exact two_newA wb _ _ _
              have n1 : (wb.alloc (.cells #[.string x, .int .i64 ((X : Int) + 2 + (i : Int))] 149)).cell? ⟨wb.heap.size, 1, none⟩ = some (.int .i64 ((2 ^ W + 2 + T.length : Nat) : Int)) := by rw [hTi, ← unhide HX, zc]; exact two_newB wb _ _ _
              have hza : (wb.alloc (.cells #[.string x, .int .i64 ((X : Int) + 2 + (i : Int))] 149)).heap.size = wb.heap.size + 1 := by simp
              have HLA := hide hLa
              have HBZ2 := hide bz2
              have Hhx := hide hxt
              have Hfull := hide hfull
              clear hend hx hxl hxt hLa bz2 hln hfull hs3 zc
              go_wp2_with (at_builtin; refine wpList_appLs _ rfl (.tmp 104) (.tmp 116) rfl w.heap.size wb.heap.size (2 ^ W + 2) (.slice aL i cL) T ((b :: r).take (m + 2)) rfl (by first | rfl | (simp [Act.eval]; done)) (unhide HLA) n0 n1 (by omega) (by rw [hza]; omega) ?_)
              intro vc wc hoc hgc hac
              have hoc' : wc.ownsRow w.heap.size 149 2 vc (T ++ [(b :: r).take (m + 2)]).length (lstV (2 ^ W + 2) (T ++ [(b :: r).take (m + 2)])) := by first | exact hoc | (rw [List.length_append, List.length_singleton]; exact hoc) | (rw [List.length_append, List.length_singleton, hTi]; exact hoc)
              obtain ⟨hMc, hbc⟩ := (unhide HMb).pushL (unhide HBZ2) hoc' hgc (by rw [hza]; exact hac) hbz
              have HBc := hide ((unhide HBb).trans hbc)
              have hcz : w.heap.size ≤ wc.heap.size := (unhide HBc).size
              obtain ⟨aF, cF, hvF⟩ := own_shapeL hoc'
              rw [List.length_append, List.length_singleton, hTi] at hvF
              subst hvF
              have HMc := hide hMc
              have hnT : i + 1 = (T ++ [(b :: r).take (m + 2)]).length := by rw [List.length_append, List.length_singleton, hTi]
              have HnT := hide hnT
              clear hoc hoc' hgc hac hMc hbc HMb HBb HLA HBZ2 n0 n1 hza hnT
              by_cases hfl : 2 ^ W + 2 + P.length = 4095
              · obtain ⟨hc2, hDn⟩ := hfu hfl
                rw [show size' S2 4095 = size' S2 (2 ^ W + 2 + P.length) by rw [hfl], ← unhide HS2, ← unhide HX] at hc2 hDn
                have HDn := hide hDn
                have hfX : X + 2 + i = 4095 := by have := unhide HNN; omega
                have g8 : (((X + 2 + i : Nat) : Int) + 1 == 4096) = true := by simp; omega
                have g8n : ((X : Int) + 2 + (i : Int) + 1 == 4096) = true := by simp; omega
                have HFI3 : Hid (Fit (ls ++ [(d, S2)])) := unhide HFI2
                have HLd := hide (unhide HLow X S2 wc (by omega) (by omega))
                clear hnx hfu hDn hfl
                go_wp2_with fail
                refine (unhide HLd).mono ?_; rintro e wd ⟨rfl, hbd⟩
                have HMd := hide ((unhide HMc).below hbd)
                have HBd := hide ((unhide HBc).trans (hbd.mono hcz))
                have hdz : w.heap.size ≤ wd.heap.size := (unhide HBd).size
                have hld : (Bt.bl (len (ls ++ [(d, S2)])) (val (ls ++ [(d, S2)]))).length + (bt S2 X).size ≤ 4000000 := by rw [Bt.bl_length, bt_size]; omega
                clear HLd hbd HMc HBc
                go_wp2_with (at_builtin; refine wpList_appM _ rfl (.tmp 122) (.tmp 126) rfl w.heap.size (.slice aE nE cE) (Bt.bl (len (ls ++ [(d, S2)])) (val (ls ++ [(d, S2)]))) (bt S2 X) rfl rfl (unhide HMd).bits hld hdz ?_)
                intro ve we hoe hge hae
                rw [bt_list, bl_more (unhide HFI3) (X, S2)] at hoe
                obtain ⟨hMe, hbe⟩ := (unhide HMd).pushB hoe hge hae hdz
                have HMe := hide hMe.none_
                have HBe := hide ((unhide HBd).trans hbe)
                have hez : w.heap.size ≤ we.heap.size := (unhide HBe).size
                obtain ⟨aG, cG, hvG⟩ := hoe.shape
                obtain ⟨nG, hnG⟩ : ∃ nG, nG = (Bt.bl (len ((ls ++ [(d, S2)]) ++ [(X, S2)])) (val ((ls ++ [(d, S2)]) ++ [(X, S2)]))).length := ⟨_, rfl⟩
                rw [← hnG] at hvG
                subst hvG
                clear hoe hge hae hMe hbe HMd HBd hnG
                go_wp2
                go_roundw
                case rel => exact ⟨[], [], (ls ++ [(d, S2)]) ++ [(X, S2)], W + 1, k2, nG, cG, 0, 0, aG, none, by go_num, rfl, rfl, by go_num, rfl, by omega, by omega, by omega, rfl, by rw [show k2 = k + (m + 1) by have := unhide Hk2; omega]; exact HDn, HMe, HBe, hez, fun h => absurd h (by omega)⟩
                case measure => simp [intOf]; omega
              · have hDn := hnx hfl
                have HDn := hide hDn
                have hfX : ¬ X + 2 + i = 4095 := by have := unhide HNN; have := unhide Hfull; omega
                have g8 : (((X + 2 + i : Nat) : Int) + 1 == 4096) = false := by simp; omega
                have g8n : ((X : Int) + 2 + (i : Int) + 1 == 4096) = false := by simp; omega
                have hi95 : i + 1 ≤ 4095 := by have := unhide HNN; have := unhide Hfull; omega
                clear hnx hfu hDn hfl
                go_wp2
                go_roundw
                case rel => exact ⟨P ++ [(d, c.toNat)], T ++ [(b :: r).take (m + 2)], ls ++ [(d, S2)], S2, k2, nE, cE, i + 1, cF, aE, aF, by go_num, rfl, rfl, by go_num, rfl, by omega, by omega, hi95, HnT, by rw [show k2 = k + (m + 1) by have := unhide Hk2; omega]; exact HDn, HMc, HBc, hcz, fun h => absurd h (by omega)⟩
                case measure => simp [intOf]; omega
    · obtain rfl : k = s.size := by omega
      have d1 : decide ((s.size : Int) < (s.size : Int)) = false := by simp
      obtain ⟨hs0, rfl, rfl⟩ := unhide HE rfl
      have hS00 : S0 = [] := List.eq_nil_of_length_eq_zero (by omega)
      have HTOLD : Hid (packAll W S0 = [(X, W + 1)] ++ [(X + 1, W + 1)]) := by show _ = _; rw [hS00, unhide HX]; rfl
      have HFIT : Hid (Fit [(X, W + 1)]) := (unhide HD).fit
      have Hlast : Hid (X + 1 < 2 ^ (W + 1)) := by show _ < _; rw [unhide HX, Nat.pow_succ]; rw [unhide HX] at hX4; omega
      have hln : len [(X, W + 1)] ≤ 100 := by simp only [len]; omega
      obtain ⟨aE, haE⟩ : ∃ q, q = aB := ⟨_, rfl⟩
      obtain ⟨nE, hnE⟩ : ∃ q, q = nB := ⟨_, rfl⟩
      obtain ⟨cE, hcE⟩ : ∃ q, q = cB := ⟨_, rfl⟩
      subst haE hnE hcE
      have HMx := hide (unhide HM)
      have HBx := hide (unhide HB)
      generalize hW1 : W + 1 = S at *
      clear HM HB HD HE hS00
      have HX1L := hide (unhide HLow (X + 1) S wr (by omega) (by omega))
      go_wp2_with fail
      refine (unhide HX1L).mono ?_; rintro e wf ⟨rfl, hbf⟩
      have HMf := hide ((unhide HMx).below hbf)
      have HBf := hide ((unhide HBx).trans (hbf.mono hwz))
      have hfz : w.heap.size ≤ wf.heap.size := (unhide HBf).size
      have hlf : (Bt.bl (len [(X, S)]) (val [(X, S)])).length + (bt S (X + 1)).size ≤ 4000000 := by rw [Bt.bl_length, bt_size]; omega
      clear HX1L hbf HMx HBx
      go_wp2_with (at_builtin; refine wpList_appM _ rfl (.tmp 133) (.tmp 138) rfl w.heap.size (.slice aE nE cE) (Bt.bl (len [(X, S)]) (val [(X, S)])) (bt S (X + 1)) rfl rfl (unhide HMf).bits hlf hfz ?_)
      intro vg wg hog hgg hag
      rw [bt_list, bl_more (unhide HFIT) (X + 1, S)] at hog
      obtain ⟨hMg, hbg⟩ := (unhide HMf).pushB hog hgg hag hfz
      have HBg := hide ((unhide HBf).trans hbg)
      have hcv := hog.text
      rw [← unhide HTOLD] at hcv
      have HPK : Hid (∀ w' : World, Calls Tryz.prog 97 #[.string ⟨(Bt.bl (len (packAll W S0)) (val (packAll W S0))).toArray⟩] w' fun e w'' => e = .returned (.string (textP (packAll W S0))) ∧ Below w'.heap.size w' w'') := fun w' => by
        have hfp : Fit (packAll W S0) := by
          rw [unhide HTOLD]
          exact Ps.Fit.append (unhide HFIT) (Ps.Fit.cons (unhide Hlast) Ps.Fit.nil)
        exact packed_any (len (packAll W S0)) (val (packAll W S0)) w' (Ps.val_lt hfp) (by rw [unhide HTOLD, Ps.len_append]; simp only [len]; omega)
      obtain ⟨ag, cg, hvg⟩ := hog.shape
      obtain ⟨ng, hng⟩ : ∃ ng, ng = (Bt.bl (len ([(X, S)] ++ [(X + 1, S)])) (val ([(X, S)] ++ [(X + 1, S)]))).length := ⟨_, rfl⟩
      rw [← hng] at hvg
      subst hvg
      generalize (⟨(Bt.bl (len (packAll W S0)) (val (packAll W S0))).toArray⟩ : ByteArray) = txt at *
      clear hog hgg hag hMg hbg HMf HBf hng
      go_wp2_with fail
      refine (unhide HPK _).mono ?_; rintro e wh ⟨rfl, hbh⟩
      have HBh := hide ((unhide HBg).trans (hbh.mono (unhide HBg).size))
      clear hcv hbh HBg HPK
      go_wp2
      go_ret
      exact ⟨rfl, unhide HBh⟩
end Go.Proofs.YtjcoahahponabaaGreatDoor
