/-
  A key's text: what the program's Text answers; the chapter's examples.
-/
import Derived.Test.YtehokoeajinboaaLamParts
namespace Go.Proofs.Ytehokoeajinboaa
open Go.RowKit
set_option linter.unusedVariables false

def textP (d hl ol : List UInt8) : List UInt8 := textF 3 (pairsF d hl ol)
theorem flat33 : ∀ (ls : List (List UInt8)), (∀ l ∈ ls, l.length = 32) → (ls.flatMap blob).length = 33 * ls.length
  | [], _ => rfl
  | l :: ls, h => by
    have h1 := h l List.mem_cons_self
    have h2 := flat33 ls (fun x hx => h x (List.mem_cons_of_mem _ hx))
    rw [List.flatMap_cons, List.length_append, h2, List.length_cons, blob, List.length_append, len_digs, h1, show nd 32 = 1 from by decide]
    omega
theorem pairsF_len (d hl ol : List UInt8) (h1 : hl.length = 8192) (h2 : ol.length = 8192) : ∀ l ∈ pairsF d hl ol, l.length = 32 := by
  intro l hl'
  obtain ⟨j, hj, rfl⟩ := List.mem_map.1 hl'
  exact len_pairF d hl ol h1 h2 j (List.mem_range.1 hj)
theorem len_textP (d hl ol : List UInt8) (h1 : hl.length = 8192) (h2 : ol.length = 8192) : (textP d hl ol).length = 16900 := by
  unfold textP textF
  rw [List.length_append, List.length_append, flat33 _ (pairsF_len d hl ol h1 h2), len_digs, pairsF, List.length_map, List.length_range, show nd 512 = 2 from by decide]
  simp
section
variable {w : World}
set_option maxHeartbeats 2000000 in
set_option maxRecDepth 100000 in
theorem LText_any (d hl ol : List UInt8) (hd : d.length = 32) (h1 : hl.length = 8192) (h2 : ol.length = 8192) :
    Calls Try.prog 63 #[.agg (cb d).toArray, .agg (cb hl).toArray, .agg (cb ol).toArray] w (Made8 w 16900 (textP d hl ol)) := by
  have HD := Lib.hid hd
  have H1 := Lib.hid h1
  have H2 := Lib.hid h2
  have HLP : Hid ((cb (pairL d hl ol)).length = 16384) := Lib.hid (by rw [List.length_map]; exact len_pairL d hl ol h1 h2)
  have HLP2 := Lib.hid (len_pairL d hl ol h1 h2)
  have HT := Lib.hid (len_textP d hl ol h1 h2)
  have HCP := Lib.hid (chunks_pairL d hl ol h1 h2)
  have hpr := fun w' => paired_any (w := w') d hl ol hd h1 h2
  obtain ⟨X, hX⟩ : ∃ X, pairL d hl ol = X := ⟨_, rfl⟩
  rw [hX] at HLP HLP2 HCP hpr
  have HSP := Lib.hid (splice_zb 16384 X HLP2.out)
  clear hd h1 h2 hX
  go_enter Try.func63, Try.ntmps63
  go_wp2_with (first
    | (with_reducible refine wpList_box (o := ⟨some 3, _, _, _, _, _⟩) rfl (.tmp 0) 32 rfl (cb d) rfl 32 (by rw [List.length_map]; exact HD.out) (by decide) ?_; intro gd w1 hgd hFd hBd)
    | (with_reducible refine wpList_box (o := ⟨some 4, _, _, _, _, _⟩) rfl (.tmp 1) 98 rfl (cb hl) rfl 8192 (by rw [List.length_map]; exact H1.out) (by decide) ?_; intro gh w2 hgh hFh hBh)
    | (with_reducible refine wpList_box (o := ⟨some 5, _, _, _, _, _⟩) rfl (.tmp 2) 98 rfl (cb ol) rfl 8192 (by rw [List.length_map]; exact H2.out) (by decide) ?_; intro go w3 hgo hFo hBo)
    | (with_reducible refine wpList_load (o := ⟨some 8, _, _, _, _, _⟩) rfl (.tmp 3) 32 rfl gd 0 _ rfl (cb d) 32 (by rw [List.length_map]; exact HD.out) (by kernel_rfl) ((hFd.below hBh).below hBo).sees ?_)
    | (with_reducible refine wpList_load (o := ⟨some 9, _, _, _, _, _⟩) rfl (.tmp 4) 98 rfl gh 0 _ rfl (cb hl) 8192 (by rw [List.length_map]; exact H1.out) (by kernel_rfl) (hFh.below hBo).sees ?_)
    | (with_reducible refine wpList_load (o := ⟨some 10, _, _, _, _, _⟩) rfl (.tmp 5) 98 rfl go 0 _ rfl (cb ol) 8192 (by rw [List.length_map]; exact H2.out) (by kernel_rfl) hFo.sees ?_)
    | (go_at_call 116; refine (hpr _).mono ?_; rintro e w4 ⟨rfl, hB4⟩; have hBw := Below.then_ (Below.then_ (Below.then_ hBd hBh) hBo) hB4; have hzw := hBw.size)
    | (with_reducible refine wpList_alloc (o := ⟨some 7, _, _, _, _, _⟩) rfl 170 rfl (cb (List.replicate 16384 0)) (by kernel_rfl) 16384 (len_zb 16384) (by decide) ?_; intro ga w5 hga hFa hBa; have hBw5 := Below.then_ hBw hBa)
    | (with_reducible refine wpList_store rfl rfl (.tmp 7) (.tmp 11) 170 rfl ga 0 w4.heap.size 170 16384 (cb (List.replicate 16384 0)) (cb X) rfl rfl 16384 HLP.out (by kernel_rfl) hFa (by omega) (cb_one _) w hBw5 (by omega) ?_; intro w6 f6 hB6 _ _; rw [HSP.out] at f6)
    | (go_at_call 114; refine (parts_any ga X f6.sees HLP2.out).mono ?_; rintro e w7 ⟨A7, c7, ps, rfl, hP, hls, hm, hB7⟩; rw [HCP.out] at hls; have hBw7 := Below.then_ hB6 hB7)
    | (go_at_call 18; refine (Text_600 3 A7 512 c7 16900 ps (pairsF d hl ol) hP hls (by omega) hm HT.out).mono ?_; rintro e w8 ⟨A8, c8, rfl, hF8, hB8⟩))
  go_ret
  exact ⟨A8, c8, rfl, hF8.lower hBw7.size, Below.then_ hBw7 hB8⟩
end
end Go.Proofs.Ytehokoeajinboaa
