/-
  Layer 13: what the card of PrinterTokens needs: the ten listed variables as they are laid, a world that holds them, and what the walks read of them.
-/
import Derived.Test.YtalkinnbfglkdaaGreatDoorPt8
import Derived.Test.YtalkinnbfglkdaaGreatDoorPt3
import Derived.Test.YtalkinnbfglkdaaGreatDoorPt23
import Derived.Test.YtalkinnbfglkdaaGreatDoorCards
import Derived.Test.YtalkinnbfglkdaaGreatDoorTie
import Derived.Lib.LaidIn
import Derived.Lib.LaidU8T
import Derived.Lib.LaidTab
import Derived.Stop.LaidErr
import Derived.Lib.LaidCaseMet
import Derived.PinnedBridge
import Derived.Deep.DeepHandedRow
import Derived.Deep.DeepWitnessRowRef
import Derived.SevenTiedAt
import Derived.ProofKit
import Derived.SizedLaws
namespace Go.Proofs.YtalkinnbfglkdaaGreatDoor.Syn
open Go.Shelf Go.RowKit Go.Lib
set_option linter.unusedVariables false
set_option maxRecDepth 100000
def strData {H:Type}(l:List ByteArray):DataW H:=.agg (l.map fun s=>.lit (.string s.data.toList))
theorem cells_of_strs {H:Type}{enc:TypeId × Value->H}{P:Program}{w:World}{base:Nat}{sp:Nat->Bool}{held:Bool}{fuel:Nat}{t e:TypeId}{n:Nat}{cs:List Value}{l:List ByteArray}{p:List MemPlace}
  (ht:P.underlying t=some (.array n e)) (he:P.underlying e=some .string) (hce:P.cellsOf e=1) (hct:P.cellsOf t=n)
  (h:DataW.trod enc P w base sp held fuel t cs=some (strData l,p)):cs=l.map Value.string:=by
 cases fuel with
 | zero=>simp [DataW.trod] at h
 | succ fuel =>
  simp only [DataW.trod,ht,hce,hct,Nat.mul_one] at h
  split at h
  ·rename_i hl
   obtain ⟨xs,hm,hx⟩:=Option.map_eq_some_iff.1 h
   have hxs:xs.map (·.1)=l.map fun s=>(DataW.lit (.string s.data.toList):DataW H):=by
    have:=congrArg Prod.fst hx
    simpa [strData] using this
   have hxl:xs.length=n:=by simpa using mapM_length hm
   have hzl:l.length=n:=by
    have:=congrArg List.length hxs
    simp at this
    omega
   apply List.ext_getElem?
   intro i
   by_cases hi:i<n
   ·obtain ⟨b,hb,hf⟩:=mapM_at hm i i (by simp [hi])
    obtain ⟨s,hc,rfl,_⟩:=DataW.trod_string he hf
    have h1:cs[i]?=some (.string s):=by
     have:=congrArg (·[0]?) hc
     simpa [List.getElem?_take,List.getElem?_drop] using this
    have h2:(xs.map (·.1))[i]?=some (DataW.lit (.string s.data.toList):DataW H):=by simp [hb]
    rw [hxs] at h2
    simp only [List.getElem?_map,Option.map_eq_some_iff,DataW.lit.injEq,Lit.string.injEq] at h2
    obtain ⟨z',hz',e⟩:=h2
    have e2:z'=s:=by
     obtain ⟨⟨x⟩⟩:=z'
     obtain ⟨⟨y⟩⟩:=s
     simp at e
     rw [e]
    subst e2
    simp [h1,hz']
   ·rw [List.getElem?_eq_none (by omega),List.getElem?_eq_none (by simp;omega)]
  ·cases h
theorem pn_eq:(Rows.laid_arraylang_syntax_primNames:DataW Unit)=strData primT:=by kernel_rfl
theorem on_eq:(Rows.laid_arraylang_syntax_opNames:DataW Unit)=strData opT:=by kernel_rfl
theorem strs_at {w:World}{cs:Array Value}{l:List ByteArray}{g n:Nat}{name:String}(hg:Tryz.prog.globalNamed name=some g) (hvar:w.var? Tryz.prog name=some cs) (hcs:cs.toList=l.map Value.string) (hn:l.length=n) :
  ∀ j,j<n->w.cell? ⟨g,j,none⟩=some (.string (l.getD j ⟨#[]⟩)):=by
 intro j hj
 have:=World.var?_cell hg hvar j
 rw [this]
 have e:cs[j]? =(l.map Value.string)[j]?:=by rw [<- hcs,Array.getElem?_toList]
 rw [e,List.getElem?_map,List.getElem?_eq_getElem (by omega),List.getD_eq_getElem?_getD,List.getElem?_eq_getElem (by omega)]
 rfl
theorem prims_of {w : World} (h : VarReads Tryz.prog w "arraylang/syntax.primNames" (strData primT)) : ∀ j, j < 56 → w.cell? ⟨0, j, none⟩ = some (.string (primT.getD j ⟨#[]⟩)) := by
 obtain ⟨g,t,cs,fuel,p,hg,hty,hvar,hd⟩:=h
 obtain rfl := Option.some.inj ((show Tryz.prog.globalNamed "arraylang/syntax.primNames" = some 0 by kernel_rfl).symm.trans hg)
 obtain rfl:=Option.some.inj ((show (Tryz.prog.globals[0]?).map (·.type)=some 151 by kernel_rfl).symm.trans hty)
 exact strs_at hg hvar (cells_of_strs arrPT Tryz.underlying9 (by kernel_rfl) (by kernel_rfl) hd) rfl
theorem ops_of {w : World} (h : VarReads Tryz.prog w "arraylang/syntax.opNames" (strData opT)) : ∀ j, j < 12 → w.cell? ⟨1, j, none⟩ = some (.string (opT.getD j ⟨#[]⟩)) := by
 obtain ⟨g,t,cs,fuel,p,hg,hty,hvar,hd⟩:=h
 obtain rfl := Option.some.inj ((show Tryz.prog.globalNamed "arraylang/syntax.opNames" = some 1 by kernel_rfl).symm.trans hg)
 obtain rfl:=Option.some.inj ((show (Tryz.prog.globals[1]?).map (·.type)=some 152 by kernel_rfl).symm.trans hty)
 exact strs_at hg hvar (cells_of_strs arrOT Tryz.underlying9 (by kernel_rfl) (by kernel_rfl) hd) rfl
end Go.Proofs.YtalkinnbfglkdaaGreatDoor.Syn
namespace Go.Proofs.YtalkinnbfglkdaaGreatDoor.Tok
open Go.Shelf Go.RowKit Go.Lib
set_option linter.unusedVariables false
set_option maxRecDepth 100000
theorem acc_eq:(Rows.laid_unicode_utf8_acceptRanges:DataW Unit)=Lib.acceptData:=by kernel_rfl
theorem first_eq:Rows.laid_unicode_utf8_first=Lib.firstData:=Pinned.utf8First_eq
theorem case_eq:Rows.laid_unicode_CaseRanges=Lib.caseData:=Pinned.caseRanges_eq
def dbTab:List Int:=[0,1,56,2,57,49,28,3,61,58,42,50,38,29,17,4,62,47,59,36,45,43,51,22,53,39,33,30,24,18,12,5,63,55,48,27,60,41,37,16,46,35,44,21,52,32,23,11,54,26,40,15,34,20,31,10,25,14,19,9,13,8,7,6]
theorem db_eq:(Rows.laid_math_bits_deBruijn64tab:DataW Unit)=Lib.tabData .u8 dbTab:=by kernel_rfl
theorem tz_of {w : World} (h : VarReads Tryz.prog w "math/bits.deBruijn64tab" (Lib.tabData .u8 dbTab)) : TZ w := by
 obtain ⟨g,t,cs,fuel,p,hg,hty,hvar,hd⟩:=h
 obtain rfl := Option.some.inj ((show Tryz.prog.globalNamed "math/bits.deBruijn64tab" = some 10 by kernel_rfl).symm.trans hg)
 obtain rfl:=Option.some.inj ((show (Tryz.prog.globals[10]?).map (·.type)=some 233 by kernel_rfl).symm.trans hty)
 have hcs:=cells_of_tab Tryz.underlying233 Tryz.underlying5 (by kernel_rfl) (by kernel_rfl) hd
 have:=World.var?_cell hg hvar 15
 rw [TZ,this]
 have e:cs[15]? =(dbTab.map fun z=>Value.int .u8 z)[15]?:=by rw [<- hcs,Array.getElem?_toList]
 rw [e]
 rfl
theorem laid_swap {P:Program}{w:World}{a b:String × DataW Unit}:∀ {l:List (String × DataW Unit)}{ps:List MemPlace},DataW.LaidVars P w (l++[a,b]) ps->∃ ps',DataW.LaidVars P w (l++[b,a]) ps'/\ps'.Perm ps
 | [],ps,h=>by
  obtain ⟨na,da⟩:=a
  obtain ⟨nb,db⟩:=b
  obtain ⟨g,t,cs,fuel,p,q,h1,h2,h3,h4,h5,rfl⟩:=h
  obtain ⟨g',t',cs',fuel',p',q',k1,k2,k3,k4,k5,rfl⟩:=h5
  cases k5
  refine ⟨_,⟨g',t',cs',fuel',p',_,k1,k2,k3,k4,⟨g,t,cs,fuel,p,_,h1,h2,h3,h4,rfl,rfl⟩,rfl⟩,?_⟩
  simp only [List.append_nil]
  exact List.perm_append_comm
 |(n,d)::r,ps,h=>by
  obtain ⟨g,t,cs,fuel,p,q,h1,h2,h3,h4,h5,rfl⟩:=h
  obtain ⟨q',k1,k2⟩:=laid_swap h5
  exact ⟨_,⟨g,t,cs,fuel,p,q',h1,h2,h3,h4,k1,rfl⟩,List.Perm.append_left _ k2⟩
theorem met_swap {P:Program}{w:World}{a b:String × DataW Unit}{l:List (String × DataW Unit)}(h:laidMet P (l++[a,b]) w):laidMet P (l++[b,a]) w:=by
 obtain ⟨ps,h1,h2,h3⟩:=h
 obtain ⟨ps',k1,k2⟩:=laid_swap h1
 exact ⟨ps',k1,k2.nodup_iff.2 h2,fun b off hp=>h3 b off (k2.mem_iff.1 hp)⟩
noncomputable def laidWorld (os:Os):World :=
 let N:=(World.settled Tryz.prog os).heap.size
 let w0:=World.holding Tryz.prog os ⟨#[.cells Lib.caseCells5 (Tryz.lays159_ren.t 208),.cells #[.string ⟨#[118,97,108,117,101,32,111,117,116,32,111,102,32,114,97,110,103,101]⟩] 215,.cells #[.string ⟨#[105,110,118,97,108,105,100,32,115,121,110,116,97,120]⟩] 215],#[],[]⟩
 let put (h:Array Obj) (g:Nat) (cs:Array Value):Array Obj:=h.modify g fun
  | .cells _ t frozen=>.cells cs t frozen
  | o=>o
 let h1:=put w0.heap 4 (Lib.firstTab.map fun z=>Value.int .u8 z).toArray
 let h2:=put h1 5 ((List.range 16).flatMap fun i=>[Value.int .u8 (Lib.accLo i),Value.int .u8 (Lib.accHi i)]).toArray
 let h3:=put h2 2 #[.slice (some ⟨N,0,none⟩) 336 336]
 let h4:=put h3 8 (((List.range 20).map fun i=>Value.int .u64 ((10 ^ i:Nat):Int))).toArray
 let h5:=put h4 9 (([0,1,28,2,29,14,24,3,30,22,20,15,25,17,4,8,31,27,13,23,21,19,16,7,26,12,18,6,11,5,10,9]:List Int).map fun z=>Value.int .u8 z).toArray
 let h6:=put h5 10 (dbTab.map fun z=>Value.int .u8 z).toArray
 let h7:=put h6 7 #[.iface 213 (.pointer (some ⟨N+1,0,none⟩))]
 let h8:=put h7 6 #[.iface 213 (.pointer (some ⟨N+2,0,none⟩))]
 let h9:=put h8 0 (Syn.primT.map Value.string).toArray
 let h10:=put h9 1 (Syn.opT.map Value.string).toArray
 { w0 with heap:=h10 }
def smallL : List (String × DataW Unit) := [("math/bits.deBruijn32tab", Rows.laid_math_bits_deBruijn32tab), ("math/bits.deBruijn64tab", Rows.laid_math_bits_deBruijn64tab), ("internal/strconv.uint64pow10", Rows.laid_internal_strconv_uint64pow10), ("unicode/utf8.acceptRanges", Rows.laid_unicode_utf8_acceptRanges), ("strconv.ErrRange", Rows.laid_strconv_ErrRange), ("strconv.ErrSyntax", Rows.laid_strconv_ErrSyntax), ("arraylang/syntax.primNames", Rows.laid_arraylang_syntax_primNames), ("arraylang/syntax.opNames", Rows.laid_arraylang_syntax_opNames)]
theorem laid_met0 (os : Os) (args : Array Value) : laidMet Tryz.prog ((smallL ++ [("unicode/utf8.first", Rows.laid_unicode_utf8_first)]) ++ [("unicode.CaseRanges", Lib.caseData)]) ((laidWorld os).forCall (fun _ _ => 0) ⟨#[], args, []⟩).memory :=
 laidMet_with_case (ρ:=Tryz.lays159_ren) { Tryz.lays159 with } Tryz.lays159.t206 ⟨by kernel_rfl,by kernel_rfl,by kernel_rfl,by kernel_rfl,by kernel_rfl,by kernel_rfl⟩
  (l := smallL ++ [("unicode/utf8.first", Rows.laid_unicode_utf8_first)])
  10 (by kernel_rfl) (by kernel_rfl) (by kernel_rfl) ((World.settled Tryz.prog default).heap.size) (Tryz.lays159_ren.t 208) (of_decide_eq_true (by kernel_rfl)) (by kernel_rfl) (by kernel_rfl) (by kernel_rfl)
theorem laid_met (os:Os) (args:Array Value):laidMet Tryz.prog Rows.printerTokensRow.laid ((laidWorld os).forCall (fun _ _=>0) ⟨#[],args,[]⟩).memory:=by
 have h : laidMet Tryz.prog (smallL ++ [("unicode/utf8.first", Rows.laid_unicode_utf8_first), ("unicode.CaseRanges", Rows.laid_unicode_CaseRanges)]) ((laidWorld os).forCall (fun _ _ => 0) ⟨#[], args, []⟩).memory := by
  rw [case_eq]
  exact laid_met0 os args
 exact met_swap h
theorem err_star : "*" ++ "errors.errorString" = "*errors.errorString" := by decide
theorem err_row (u : TypeId) (h : Tryz.prog.typeName? 3 u = some "*errors.errorString") : u = 213 :=
 typeName_ptr_named (nm := "errors.errorString") (by rw [err_star]; kernel_rfl) (by kernel_rfl) (by decide) u (by rw [err_star]; exact h)
theorem err_g : Tryz.prog.globalNamed "strconv.ErrSyntax" = some 6 := by kernel_rfl
theorem err_t:(Tryz.prog.globals[6]?).map (·.type)=some 70:=by kernel_rfl
theorem err_c:Tryz.prog.cellsOf 215=1:=by kernel_rfl
theorem err_s:Tryz.prog.cellsOf 9=1:=by kernel_rfl
theorem err_var {W : World} (hM : laidMet Tryz.prog Rows.printerTokensRow.laid W) : ∃ a, W.var? Tryz.prog "strconv.ErrSyntax" = some #[.iface 213 (.pointer (some a))] := by
 obtain ⟨a,_,ha,_,_,_⟩:=laid_sentinel hM.tail.tail.tail.tail.tail err_g err_t Tryz.underlying70 err_row Tryz.underlying213 Tryz.underlying215 rfl rfl Tryz.underlying9 err_c err_s
 exact ⟨a,ha⟩
theorem tabs_of {W:World}(hL:laidMetH Tryz.prog Rows.printerTokensRow.laid W):Tabs W/\TZ W:=by
 have h3:=Lib.laidMet.reads (d:=Rows.laid_unicode_utf8_first) hL (.tail _ (.tail _ (.tail _ (.tail _ (.tail _ (.tail _ (.tail _ (.tail _ (.tail _ (.head _))))))))))
 have h4:=Lib.laidMet.reads (d:=(Rows.laid_unicode_utf8_acceptRanges:DataW Unit)) hL (.tail _ (.tail _ (.tail _ (.head _))))
 have h5:=Lib.laidMet.reads (d:=(Rows.laid_math_bits_deBruijn64tab:DataW Unit)) hL (.tail _ (.head _))
 rw [first_eq] at h3
 rw [acc_eq] at h4
 rw [db_eq] at h5
 have hM:laidMet Tryz.prog Rows.printerTokensRow.laid W:=hL
 obtain ⟨a,ha⟩:=err_var hM
 have hE : ES W := ⟨_, _, by have h0 := World.var?_cell (show Tryz.prog.globalNamed "strconv.ErrSyntax" = some 6 by kernel_rfl) ha 0; simpa using h0⟩
 exact ⟨⟨utf8Tabs_of_readsT ({ Tryz.lays197 with }:U8Types Tryz.prog Tryz.lays197_ren) ⟨by kernel_rfl,by kernel_rfl,by kernel_rfl,by kernel_rfl,by kernel_rfl,by kernel_rfl,by kernel_rfl⟩ h3 h4,hE⟩,tz_of h5⟩
end Go.Proofs.YtalkinnbfglkdaaGreatDoor.Tok
namespace Go.Proofs.YtalkinnbfglkdaaGreatDoor.Syn
open Go.Shelf Go.RowKit Go.Lib
set_option linter.unusedVariables false
set_option maxRecDepth 100000
def Tabs10 (w:World):Prop:=(Tab w/\Tok.TZ w/\10<w.heap.size)/\Tok.Tabs w/\6<w.heap.size
noncomputable def laidWorld (os:Os):World:=Tok.laidWorld os
theorem laid_met (os:Os) (args:Array Value):laidMet Tryz.prog Rows.printerTokensRow.laid ((laidWorld os).forCall (fun _ _=>0) ⟨#[],args,[]⟩).memory:=Tok.laid_met os args
theorem tabs_of {W:World}(hL:laidMetH Tryz.prog Rows.printerTokensRow.laid W):Tabs10 W:=by
 have h6:=Lib.laidMet.reads (d:=(Rows.laid_arraylang_syntax_primNames:DataW Unit)) hL (.tail _ (.tail _ (.tail _ (.tail _ (.tail _ (.tail _ (.head _)))))))
 have h7:=Lib.laidMet.reads (d:=(Rows.laid_arraylang_syntax_opNames:DataW Unit)) hL (.tail _ (.tail _ (.tail _ (.tail _ (.tail _ (.tail _ (.tail _ (.head _))))))))
 rw [pn_eq] at h6
 rw [on_eq] at h7
 obtain ⟨ht,hz⟩:=Tok.tabs_of hL
 obtain ⟨tp,p,e⟩:=id ht.2
 refine ⟨⟨⟨prims_of h6,ops_of h7⟩,hz,?_⟩,ht,World.block_lt_of_cell? W _ e⟩
 rw [Tok.TZ] at hz
 exact World.block_lt_of_cell? W _ hz
end Go.Proofs.YtalkinnbfglkdaaGreatDoor.Syn
