/- Lemmas: The digest of a node of the law's four pairs, reckoned round by round. The reference's left and at, at this translation. The reference's turns and constant, at this translation: they are the program's tables. The reference's constant, at this translation: that of the program's table. The first part of the reference's round: the columns. The reference's round, at this translation: the program's. -/
import Derived.Test.YtbmapdkcccdmfaaDoorM1
import Derived.Test.YtbmapdkcccdmfaaDoorM2
import Derived.Test.YtbmapdkcccdmfaaDoorM20
import Derived.Test.YtbmapdkcccdmfaaDoorM3
import Derived.Test.YtbmapdkcccdmfaaDoorM36
import Derived.Test.YtbmapdkcccdmfaaDoorM37
import Derived.Test.YtbmapdkcccdmfaaDoorM4
import Derived.Test.YtbmapdkcccdmfaaDoorRows
namespace Go.Proofs.YtbmapdkcccdmfaaDoor
open Go.RowKit Go.Sort
namespace D4
def t : ByteArray := ⟨#[226, 22, 160, 189, 62, 229, 7, 230, 198, 124, 254, 252, 169, 143, 132, 190, 71, 193, 187, 192, 9, 49, 95, 171, 196, 64, 93, 180, 186, 50, 25, 3, 116, 87, 42]⟩
def d : ByteArray := ⟨#[89, 145, 187, 140, 101, 20, 20, 138, 41, 219, 103, 106, 20, 172, 80, 108, 210, 205, 87, 117, 172, 230, 60, 48, 164, 254, 69, 119, 21, 233, 172, 132]⟩
def e0 : List Int := [16575469011192518370, 13728255524388895942, 12348642621231186247, 223265434002866372, 19552116, 0, 0, 0, 0, 0, 0, 0, 0, 0, 0, 0, 9223372036854775808, 0, 0, 0, 0, 0, 0, 0, 0]
def e1 : List Int := [11360007531124661305, 8743412275547986057, 13397034371372217507, 2321136966609134588, 16028859479986548736, 6299173582646109883, 11455457430429528439, 17103162679859441634, 14043495442799511432, 5693126467463941869, 1044652404803599670, 3009167771353633283, 8827898388869958210, 1641799344434643101, 6687640382002296492, 6657914144369980678, 11243418472999812390, 7826589721069442534, 7295526697814658267, 3359994513916669782, 7843149122082426690, 17770323973043909543, 14705533591639307233, 9891473488816843249, 5900724573411631363]
def e2 : List Int := [7452947672319385727, 16010551736447856582, 1000189979959678538, 11212645817358802836, 616256953748614757, 10138065712492773770, 13355751417901127385, 16830384972690661117, 12244138050459266693, 6487358142963355378, 11982396590926302912, 66446885298251476, 12055748315104483125, 16034564722289669247, 2986278432676650824, 17959515579940584234, 7962826935038654426, 7356267672247953538, 8678621145420663931, 15754333071769898771, 5653766200920900246, 15178609777958959598, 7966418549417212430, 14328157526712814032, 8006119344871356752]
def e3 : List Int := [10120758773881491100, 7233138706381712101, 151529757468284426, 14400161622507643483, 5973761937696207517, 4176601689725055883, 8295369261414289040, 11115149672536810585, 2229211860686988984, 2608013668764723583, 7948593646972505663, 16345272002825889604, 13301991952007778332, 728677706560685914, 3695130254924742104, 8326584092164033255, 1062191829342581246, 4248267398981686752, 4228633592352835114, 16943653596438586695, 6375095371574831340, 1962994159705256476, 4368891494878099993, 6233785696592432285, 18292953615533261822]
def e4 : List Int := [11049970646810427964, 17432762220789121587, 6222731573567663509, 4517815931922373517, 13860136066934503594, 18354768817684057435, 8974989769123804834, 18123500425711349207, 16635791617130218227, 17587671311932351898, 1411348457305230185, 5660798565566883137, 779958054433427318, 5392627642225020661, 11773413454598605214, 3743568587064398219, 17329618797662013818, 4101363330354249855, 347802201287791337, 16851028473788053360, 5514708397774100793, 9537451219384455600, 9215271404751075530, 16976184402445955900, 11022881942839780298]
def e5 : List Int := [1639966214715625628, 7048660567933151188, 3350321564052996376, 16596538953308395685, 10248419227074171815, 1730493593742363813, 17972431577309301599, 5943420130489713092, 9032241648317329533, 4761046380935350511, 8492852488033288970, 17757536132030155501, 2625696502553411631, 3436673684248499594, 16511450760276412465, 6053193026028078086, 17106064568807103154, 10607378224492706582, 4551446812731506284, 1561399751455453660, 15459025235077671464, 17285208098660082138, 10219642706480877785, 10204123485170501072, 1451406551536143599]
def e6 : List Int := [17790791495772390879, 17128237551007012584, 8647830491027750292, 10624925115550553087, 1150625138640463937, 8413149605853168118, 7147705055690044287, 574317842649715429, 6319380521827848960, 9115847312256653832, 1929215657858466625, 9505780072526728652, 13949244452789343660, 9729054231349102752, 8340378407171317287, 18156760502685462046, 15906640366485862216, 637695578840735817, 732533287803303345, 8979619136872297106, 10578611319825984854, 17047782722379818704, 2924641731142010632, 11289510079145017811, 392156390931273983]
def e7 : List Int := [7450331439541252307, 17061362370566405621, 15354660889216698779, 4485770170180270209, 17380585139881394498, 132439089022692927, 169770504512638886, 14825930910895175328, 14492211970830741887, 1579463859566235670, 27606122574369777, 4599018568000273772, 14297230836856444359, 8120523903138757640, 15925996940414306744, 13033360601752050772, 8628236593711776353, 17610232049972172073, 4760855577464164290, 636346483794660787, 689482574827757339, 945189075976940909, 13796053613216457073, 8054616349620210215, 13837648695235577668]
def e8 : List Int := [691737884062787747, 1354419215017505106, 4682826413490739717, 7253329656980879063, 761231954455355971, 7261781862607628314, 15877506238593379562, 1570561758236986445, 14659103330915364446, 13413144742003696332, 5825772743308779341, 444198057415585032, 7076152671447588795, 17369926982621529545, 1936874193682668835, 17258169988324312823, 15175129773509228099, 13906019303510613820, 4398372049370713975, 12971182246741079408, 14637280250998385467, 8093828657413321252, 3580967507289401750, 13771515363014364465, 14060712580841762271]
def e9 : List Int := [1198993966867400374, 14849129651986190404, 1678448308289034263, 14706224925232443870, 1004609951578094317, 13468586951151601899, 1221672972669225873, 5356234886442105699, 9221411423992383770, 11050535554305830761, 8553928502195465151, 9743539531484080115, 10987111503320735193, 11214190671184164713, 8228888792251731588, 4964574591807924165, 11913511003464353291, 420644046668496430, 10816279149290917530, 6691209644631177442, 16379003073623714455, 10961603916483264855, 151832421608477701, 8795837712288964698, 10924120662058236855]
def e10 : List Int := [16524288225823088795, 17185400738459129035, 4396429239985684955, 18360420321801134091, 10142190833834311061, 15679331705903171088, 9059616881371162739, 2245251430433033412, 5975972627408935364, 13376987512119758039, 2686812510334772404, 11567337120781056137, 10172279358812940254, 1704267628279352940, 14765276543351033596, 17128334039353713561, 9746465262381412455, 12305405479481850340, 2675562802790211324, 8404120287174660258, 15769792865086679781, 9940561962922720310, 17012988135947521807, 12971142963977684524, 11044993709033330619]
def e11 : List Int := [11444875871382206177, 16858768207599960387, 8915798661890213080, 16756880886099133714, 8003959505099602830, 9100586991404088845, 3196654708236612789, 6245682709382227643, 4324721544193595216, 3494986689283429057, 2620059448111925144, 4464588428439623580, 2570406956354230514, 17916817477216263585, 15321235779182282072, 17768088264375129629, 13594511241539188176, 6197017340377625461, 4811899024040096045, 4620421676404436971, 6007039808058196438, 15694353371462021714, 320747810911913619, 9868790878198767149, 15171746073063724713]
def e12 : List Int := [2161158295525241967, 6570570910400217919, 8066206251606345505, 7631541655122159294, 18263263843952705057, 5650366366272540632, 821443723932041149, 3829229912225646818, 10822198866301369565, 845258969131412599, 7188989822932124862, 18364297895644033381, 14634123155202845451, 6190866148198480448, 13707421107064792016, 1067816489720741052, 1313479201252445254, 887363146188571629, 8568313632443403143, 10440765500116760507, 15180901524696586813, 16697354497253292503, 6792737452804246401, 9192185123444001598, 103441063490875852]
def e13 : List Int := [2495836426864141161, 10066212911323883818, 5958867839958603320, 12022103369232734516, 11796177643644739218, 13058290866938722725, 12688822354378958993, 7832679871345247504, 4616468042233292759, 5224013738557045770, 8366698357131937737, 16731183420320274626, 3563888193995229047, 10502500987528556767, 10119839809222385611, 7282850305853071197, 5632116658631042977, 4107916106110218837, 2594832262288967658, 8297520873764405258, 10130188995894656664, 14939793623829141736, 17136355816809383304, 9684782407143690303, 8182470376263525405]
def e14 : List Int := [8277865866760222274, 17020590036678053730, 10716288129495648948, 6036137021108658920, 11832860568802567448, 7084244006203361970, 4876607974659971329, 9711212137592304996, 6308662299187762484, 8221898382896718604, 3885410815917500108, 2760467858627779685, 8218479997473627963, 7226507935514945328, 5358270531432163709, 1159053169487417699, 13540820734095210457, 16971132713407651157, 12104824529290623473, 11103027403830625945, 18082204906561823858, 17269309897523229051, 9094968400913280413, 9770513494455661735, 14728137083717193148]
def e15 : List Int := [4740607654635397062, 4142943306190039265, 17566141266832815104, 17228905942864645461, 11217848660136518764, 15046389628034654281, 5283629662126919923, 2768580238201451850, 11932132154836811903, 12425109137478745039, 10566202415377351377, 16176063892656807219, 770401269521123544, 10639499641233963093, 5320156620458459723, 18274232620295988539, 16260100636517638045, 13447489285302271109, 5310593293531471473, 2153349374111535208, 2484164933820242777, 708087448693129391, 3545579201643994212, 14957796363400262037, 16948108313819338849]
def e16 : List Int := [13504610530506719056, 18217784332782075052, 2319892982916191059, 15393799869088640314, 11141438469191336873, 14445877284636801239, 17192506780443516087, 8601836943388416223, 6400936871987712529, 1792899143109579848, 3511038996644221552, 6010777628245367696, 2917893265185069719, 8006861347743079134, 13214852936214209115, 4378754295431980831, 8504514257573806915, 6258970680658519669, 13375223747304243035, 16612272960179363379, 14803556035387494355, 8498573802450288193, 9622317289617057759, 11500496382316500787, 15091560506010576373]
def e17 : List Int := [17728679710056462384, 11621662725081311410, 12265881323577760796, 968241936881296606, 13854646271506111502, 13317674707831590620, 8156820752784145527, 3981808272556392700, 3882790636215252950, 16785720954475318892, 10348175589071832552, 603977105868442223, 9489860571816357614, 15876140330092533798, 18209425366780752523, 10533059435949352387, 11335317857551503228, 11401816982099796725, 1516949045605682985, 8535775719272531503, 4219289217956397224, 1709280703602683980, 306178851639491348, 4164390696844407727, 8785868992407091233]
def e18 : List Int := [597651982564583414, 5441176371295546728, 4756222092857593585, 4041278110468209571, 5374453327299199111, 15941966347998169765, 3590983249699278873, 2229720204082990557, 7699068080524288957, 17878364153847398051, 1895239181585089031, 7446616158962418936, 13237695253407814266, 2760303951278315885, 7913573579077099205, 2704629532183724657, 230863272870730559, 8555871635288075301, 15398170348458289762, 954483242464879337, 15730267787292299952, 4252257432062671354, 3421953781809222052, 16811991872644682218, 18310487287442566897]
def e19 : List Int := [9142264123213279005, 14806697459710798191, 9648435596741482275, 14685985925482262884, 10550534515566622153, 13902875795811350244, 3644099189076277309, 17490893872650821585, 14352029387988763401, 16452758369910249458, 1218921940369422001, 4632730938029099466, 2738657346331388367, 10720083055392276132, 760512543995082812, 1979790234985519710, 7882975466177308290, 406171507051138762, 5295521370570486197, 16934421560924692997, 14866763388317819666, 887334060540736763, 11271623705594673697, 1449209684816779906, 13533688014291856232]
def e20 : List Int := [16047349742909550010, 740888238307523507, 17433015883086513974, 537696275116797277, 5670125561587183641, 1238015073239948027, 13673908793908747259, 12469922114385117409, 1965013054254936026, 1697444969454707687, 1854694668729558282, 2899767826978337592, 2218672693753754504, 11472293374261424729, 8000351299674402319, 13480775563804557130, 17149490250474212042, 4488611649997327754, 14756941048478052575, 9578670496690381692, 14298926684496413069, 14162608109558984792, 4494018438232286235, 13191831754586039894, 11228769069655496539]
def e21 : List Int := [1441981707491975073, 17331602941748221014, 9166341251888524679, 7673063802027617509, 11747432106752560505, 10397371402258777270, 18165545993724598629, 2731165443843537096, 1383443371953994536, 11611508607520195179, 745100726517746114, 2094666117109336848, 7393833977569350164, 14813434921927434862, 2564899129297348994, 10842308465092091423, 1030234284693332095, 5390668725447598140, 639716246226562701, 4372760271091731528, 14766307008234261659, 14701910331344683296, 8063872020603039015, 3841261947300304233, 13738700443354958915]
def e22 : List Int := [17812558555991226023, 10987379722572315666, 18180953696695279682, 8114697685170703881, 6001246884514588588, 5641756584918377917, 9814841620251830097, 16307572875128409410, 5663124366727904157, 1542854650406789786, 2564884824675189004, 17403266939480990461, 4408166324640022906, 18009697406786645010, 6031771434785172880, 4060906133140334840, 11255149945837892407, 633390717346985453, 16804266011891912150, 6588657744310494551, 13822953841609728444, 7974423781040155458, 4499575143454471907, 5327176909798643270, 12206102736695680390]
def e23 : List Int := [13765574088070147332, 449422684393042864, 16115330274743600450, 12049969433818722340, 6018287725764738993, 3699414132802109157, 6082520733643614365, 11327803722586134383, 3805859790605393648, 15619435144385036904, 6629780869939586001, 5960505734325824845, 1400549399156927348, 9375126773053384006, 6038929513191568307, 305011740836912261, 4766895040976939601, 7870571818877521430, 6812233876908303090, 10166659580062888873, 6115255487359992168, 9455363078083639594, 9118827233623348074, 9439390358823591352, 6941761170952523635]
def e24 : List Int := [9949599903153623385, 7804927357917584169, 3475906640800632274, 9560272387405381284, 15809356410648576804, 6505150002332480696, 9943322491761542745, 6165910962948983503, 268114540779072391, 9592279621816408249, 157246535278439114, 3514759586479257969, 4336618839320331871, 16555864055661522437, 8837784490893892235, 13599935749110207872, 18304989172932633492, 6416172790363442498, 14188200857240933350, 13829258739135075820, 366264137170578506, 4759884637875425742, 7086766191828840250, 15837002839143260859, 14327547693467460595]
theorem s0 : ∀ j : Fin 25, roundOf 0 (lit e0) j.val = lit e1 j.val := by decide +kernel
theorem s1 : ∀ j : Fin 25, roundOf 1 (lit e1) j.val = lit e2 j.val := by decide +kernel
theorem s2 : ∀ j : Fin 25, roundOf 2 (lit e2) j.val = lit e3 j.val := by decide +kernel
theorem s3 : ∀ j : Fin 25, roundOf 3 (lit e3) j.val = lit e4 j.val := by decide +kernel
theorem s4 : ∀ j : Fin 25, roundOf 4 (lit e4) j.val = lit e5 j.val := by decide +kernel
theorem s5 : ∀ j : Fin 25, roundOf 5 (lit e5) j.val = lit e6 j.val := by decide +kernel
theorem s6 : ∀ j : Fin 25, roundOf 6 (lit e6) j.val = lit e7 j.val := by decide +kernel
theorem s7 : ∀ j : Fin 25, roundOf 7 (lit e7) j.val = lit e8 j.val := by decide +kernel
theorem s8 : ∀ j : Fin 25, roundOf 8 (lit e8) j.val = lit e9 j.val := by decide +kernel
theorem s9 : ∀ j : Fin 25, roundOf 9 (lit e9) j.val = lit e10 j.val := by decide +kernel
theorem s10 : ∀ j : Fin 25, roundOf 10 (lit e10) j.val = lit e11 j.val := by decide +kernel
theorem s11 : ∀ j : Fin 25, roundOf 11 (lit e11) j.val = lit e12 j.val := by decide +kernel
theorem s12 : ∀ j : Fin 25, roundOf 12 (lit e12) j.val = lit e13 j.val := by decide +kernel
theorem s13 : ∀ j : Fin 25, roundOf 13 (lit e13) j.val = lit e14 j.val := by decide +kernel
theorem s14 : ∀ j : Fin 25, roundOf 14 (lit e14) j.val = lit e15 j.val := by decide +kernel
theorem s15 : ∀ j : Fin 25, roundOf 15 (lit e15) j.val = lit e16 j.val := by decide +kernel
theorem s16 : ∀ j : Fin 25, roundOf 16 (lit e16) j.val = lit e17 j.val := by decide +kernel
theorem s17 : ∀ j : Fin 25, roundOf 17 (lit e17) j.val = lit e18 j.val := by decide +kernel
theorem s18 : ∀ j : Fin 25, roundOf 18 (lit e18) j.val = lit e19 j.val := by decide +kernel
theorem s19 : ∀ j : Fin 25, roundOf 19 (lit e19) j.val = lit e20 j.val := by decide +kernel
theorem s20 : ∀ j : Fin 25, roundOf 20 (lit e20) j.val = lit e21 j.val := by decide +kernel
theorem s21 : ∀ j : Fin 25, roundOf 21 (lit e21) j.val = lit e22 j.val := by decide +kernel
theorem s22 : ∀ j : Fin 25, roundOf 22 (lit e22) j.val = lit e23 j.val := by decide +kernel
theorem s23 : ∀ j : Fin 25, roundOf 23 (lit e23) j.val = lit e24 j.val := by decide +kernel
theorem all24 (f : Nat → Int) (h : ∀ j, j < 25 → f j = lit e0 j) : ∀ j, j < 25 → roundsOf f 24 j = lit e24 j :=
 (next (next (next (next (next (next (next (next (next (next (next (next (next (next (next (next (next (next (next (next (next (next (next (next (show ∀ j, j < 25 → roundsOf f 0 j = lit e0 j from h) s0) s1) s2) s3) s4) s5) s6) s7) s8) s9) s10) s11) s12) s13) s14) s15) s16) s17) s18) s19) s20) s21) s22) s23)
def g0 : Nat → Int := lastOf (blkOf (inOf (fun _ => 0) t (t.size / 136)) t (t.size / 136) (t.size % 136 / 8)) (remAt t (t.size / 8)) (t.size % 136 / 8)
theorem start : ∀ j : Fin 25, putAt g0 16 (xr (g0 16) 9223372036854775808) j.val = lit e0 j.val := by decide +kernel
theorem dg_lit : dg (lit e24) = [89, 145, 187, 140, 101, 20, 20, 138, 41, 219, 103, 106, 20, 172, 80, 108, 210, 205, 87, 117, 172, 230, 60, 48, 164, 254, 69, 119, 21, 233, 172, 132] := by decide +kernel
theorem sum : sumOf t = d := by
 have h : ∀ j, j < 25 → takeOf (fun _ => 0) t j = lit e24 j := fun j hj => all24 _ (fun j hj => start ⟨j, hj⟩) j hj
 unfold sumOf
 rw [dg_ext _ _ h, dg_lit]
 rfl
end D4
end Go.Proofs.YtbmapdkcccdmfaaDoor
namespace Go.Proofs.YtbmapdkcccdmfaaDoor
open Go.RowKit Go.Sort

theorem k_ofInt_nat64 (x : Nat) (hx : x < 18446744073709551616) : (BitVec.ofInt 64 (x : Int)).toNat = x := by
 rw [BitVec.toNat_ofInt]
 omega
theorem k_or_nat64 (x y : Nat) (hx : x < 18446744073709551616) (hy : y < 18446744073709551616) : bits .or .u64 (x : Int) (y : Int) = ((x ||| y : Nat) : Int) := by
 have h : (x ||| y) < 2 ^ 64 := Nat.or_lt_two_pow hx hy
 have e : bits .or .u64 (x : Int) (y : Int) = IntKind.u64.wrap (((BitVec.ofInt 64 (x : Int)) ||| (BitVec.ofInt 64 (y : Int))).toNat : Int) := rfl
 rw [e, BitVec.toNat_or, k_ofInt_nat64 x hx, k_ofInt_nat64 y hy, IntKind.wrap_u64]
 omega
theorem rot_zero (x : Int) (h : 0 ≤ x ∧ x < 18446744073709551616) : rot x 0 = x := by
 obtain ⟨n, rfl⟩ := Int.eq_ofNat_of_zero_le h.1
 unfold rot
 have e1 : IntKind.u64.wrap ((n : Int) * 2 ^ 0) = ((n : Nat) : Int) := by rw [IntKind.wrap_u64]; omega
 have e2 : (n : Int) / 2 ^ (64 - 0) = ((0 : Nat) : Int) := by
  show (n : Int) / 18446744073709551616 = 0
  omega
 rw [e1, e2, k_or_nat64 n 0 (by omega) (by decide), Nat.or_zero]

set_option maxRecDepth 20000 in
set_option maxHeartbeats 2000000 in
theorem rleft_any (x : Int) (hx : 0 ≤ x ∧ x < 18446744073709551616) (k : Nat) (hk : k < 64) (w : World) :
  Calls Tryd.prog 67 #[.int .u64 x, .int .i64 k] w fun e w' => e = .returned (.int .u64 (rot x k)) ∧ Below w.heap.size w w' := by
 by_cases h0 : k = 0
 ·subst h0
  have HR : Hid (rot x 0 = x) := rot_zero x hx
  go_enter Tryd.func67, Tryd.ntmps67
  go_wp2
  go_ret
  exact ⟨by rw [HR.out]; rfl, Below.refl _ _⟩
 ·obtain ⟨m, hm⟩ : ∃ m : Nat, 64 - k = m := ⟨_, rfl⟩
  have hk0 : ¬ (k : Int) = 0 := by omega
  have w2 : IntKind.i64.wrap (64 - (k : Int)) = m := by rw [IntKind.wrap_i64]; omega
  have w3 : IntKind.i64.wrap (m : Int) = m := by rw [IntKind.wrap_i64]; omega
  have w4 : IntKind.i64.wrap (k : Int) = k := by rw [IntKind.wrap_i64]; omega
  have l1 : (k : Int) ≤ 64 := by omega
  have l2 : (m : Int) ≤ 64 := by omega
  have z1 : 0 ≤ (k : Int) := by omega
  have z2 : 0 ≤ (m : Int) := by omega
  have hmm : min m 64 = m := by omega
  have hkk : min k 64 = k := by omega
  have n1 : ¬ (k : Int) < 0 := by omega
  have n2 : ¬ (m : Int) < 0 := by omega
  have HM : Hid (64 - k = m) := hm
  clear hm
  go_enter Tryd.func67, Tryd.ntmps67
  go_wp2
  refine wp_region_quiet_below (by kernel_rfl) (by kernel_rfl) ?_
  iterate 9 (quiet_step (fail))
  refine wpQuiet_nil ?_
  intro w8 hw8
  have hb8 : Below w.heap.size w w8 := by
   obtain ⟨p, rfl⟩ := hw8
   exact below_regrown _ _ _
  go_wp2
  go_ret
  refine ⟨?_, hb8⟩
  rw [rot, HM.out]
  simp [IntKind.wrap_u64]

set_option maxRecDepth 20000 in
set_option maxHeartbeats 2000000 in
theorem rat_any (x y : Nat) (hx : x < 1000) (hy : y < 1000) (w : World) :
  Calls Tryd.prog 66 #[.int .i64 x, .int .i64 y] w fun e w' => e = .returned (.int .i64 ((x % 5 + 5 * (y % 5) : Nat) : Int)) ∧ Below w.heap.size w w' := by
 have a1 : ((x : Int) + 10).tmod 5 = ((x % 5 : Nat) : Int) := by rw [Int.tmod_eq_emod_of_nonneg (by omega)]; omega
 have a2 : ((y : Int) + 10).tmod 5 = ((y % 5 : Nat) : Int) := by rw [Int.tmod_eq_emod_of_nonneg (by omega)]; omega
 obtain ⟨p, hp⟩ : ∃ p, x % 5 = p := ⟨_, rfl⟩
 obtain ⟨q, hq⟩ : ∃ q, y % 5 = q := ⟨_, rfl⟩
 have e1 : ((x : Int) + 10) % 5 = p := by omega
 have e2 : ((y : Int) + 10) % 5 = q := by omega
 rw [hp] at a1
 rw [hq] at a2
 have hp5 : p < 5 := by omega
 have hq5 : q < 5 := by omega
 have HE : Hid (((x % 5 + 5 * (y % 5) : Nat) : Int) = (p : Int) + 5 * (q : Int)) := by show _ = _; rw [hp, hq]; omega
 clear hp hq
 go_enter Tryd.func66, Tryd.ntmps66
 go_wp2
 go_ret
 exact ⟨by rw [HE.out]; rfl, Below.refl _ _⟩
end Go.Proofs.YtbmapdkcccdmfaaDoor
namespace Go.Proofs.YtbmapdkcccdmfaaDoor
open Go.RowKit Go.Sort

def txy : Nat → Nat × Nat
 | 0 => (1, 0)
 | k + 1 => ((txy k).2, (2 * (txy k).1 + 3 * (txy k).2) % 5)
def tpl (k : Nat) : Nat := (txy k).1 % 5 + 5 * ((txy k).2 % 5)
def tva (k : Nat) : Nat := (k + 1) * (k + 2) / 2 % 64
def trn : Nat → Nat → Nat
 | 0 => fun _ => 0
 | k + 1 => fun j => if j = tpl k then tva k else trn k j
theorem trn_is (j : Nat) (h : j < 25) : trn 24 j = tn j := (by decide : ∀ j : Fin 25, trn 24 j.val = tn j.val) ⟨j, h⟩
theorem txy_bd (k : Nat) (h : k < 25) : (txy k).1 < 5 ∧ (txy k).2 < 5 := (by decide : ∀ k : Fin 25, (txy k.val).1 < 5 ∧ (txy k.val).2 < 5) ⟨k, h⟩
theorem size_i25 : (Tryd.prog.info? 92).map (·.size) = some 25 := by kernel_rfl

set_option maxRecDepth 20000 in
set_option maxHeartbeats 2000000 in
theorem rturns_any (w : World) :
  Calls Tryd.prog 44 #[] w fun e w' => e = .returned (.agg (fl 25 fun j => .int .i64 (tn j)).toArray) ∧ Below w.heap.size w w' := by
 go_enter Tryd.func44, Tryd.ntmps44
 go_wp2
 refine wpOf (fun W => Below w.heap.size w W ∧ Fw w.heap.size 25 (fun _ => .int .i64 0) W ∧ Fw (w.heap.size + 1) 25 (fun _ => .int .i64 0) W) ⟨((Below.refl _ w).alloc (Nat.le_refl _) _).alloc (by simp) _, Fw.alloc (Fw.lit _ _ rfl rfl) _, Fw.lit _ _ (by simp) rfl⟩ ?_
 rintro V ⟨BV, ZV, CV⟩
 obtain ⟨z, hz⟩ : ∃ c, w.heap.size = c := ⟨_, rfl⟩
 have HZ : Hid (w.heap.size = z) := hz
 rw [hz] at BV ZV CV ⊢
 clear hz
 obtain ⟨c, hc⟩ : ∃ c, z + 1 = c := ⟨_, rfl⟩
 rw [hc] at CV ⊢
 go_loopg [2, 3, 4] 24 (fun gk a b i wr => ∃ k x y : Nat, k + gk = 24 ∧ a = .int .i64 x ∧ b = .int .i64 y ∧ i = .int .i64 k ∧ Below z w wr ∧ Fw z 25 (fun _ => .int .i64 0) wr ∧ Fw c 25 (fun j => .int .i64 (trn k j)) wr ∧ Hid (txy k = (x, y)))
 case atStart => exact ⟨0, 1, 0, rfl, rfl, rfl, rfl, BV, ZV, CV, (rfl : _ = _)⟩
 case round =>
  clear BV ZV CV
  obtain ⟨k, x, y, hk, rfl, rfl, rfl, BW, CZ, CC, hH⟩ := hrel
  by_cases hlt : k < 24
  ·have l0 : (k : Int) < 24 := by omega
   have hxy := txy_bd k (by omega)
   rw [hH.out] at hxy
   have hx5 : x < 5 := hxy.1
   have hy5 : y < 5 := hxy.2
   have KA : Hid (∀ w : World, _) := fun w : World => rat_any x y (by omega) (by omega) w
   obtain ⟨p, hp, hp2⟩ : ∃ p, x % 5 + 5 * (y % 5) = p ∧ p < 25 := ⟨_, rfl, by omega⟩
   rw [hp] at KA
   obtain ⟨v, hv⟩ : ∃ v, tva k = v := ⟨_, rfl⟩
   obtain ⟨q, hq⟩ : ∃ q : Nat, (k + 1) * (k + 2) = q := ⟨_, rfl⟩
   have hq2 : q ≤ 625 := by rw [← hq]; exact Nat.le_trans (Nat.mul_le_mul (show k + 1 ≤ 25 by omega) (show k + 2 ≤ 25 by omega)) (Nat.le_refl _)
   have w1 : IntKind.i64.wrap ((k : Int) + 1) = (k : Int) + 1 := by rw [IntKind.wrap_i64]; omega
   have hqi : ((k : Int) + 1) * ((k : Int) + 2) = q := by rw [← hq]; simp
   have hq3 : (q : Int).tdiv 2 = ((q / 2 : Nat) : Int) := by rw [Int.tdiv_eq_ediv_of_nonneg (by omega)]; omega
   have hq4 : (q : Int) / 2 = ((q / 2 : Nat) : Int) := by omega
   obtain ⟨r, hr⟩ : ∃ r, q / 2 = r := ⟨_, rfl⟩
   rw [hr] at hq3 hq4
   have hvr : r % 64 = v := by rw [← hr, ← hq, ← hv, tva]
   have hr3 : (r : Int).tmod 64 = v := by rw [Int.tmod_eq_emod_of_nonneg (by omega)]; omega
   have hr4 : (r : Int) % 64 = v := by omega
   obtain ⟨y2, hy2⟩ : ∃ y2, (2 * x + 3 * y) % 5 = y2 := ⟨_, rfl⟩
   have hy3 : (2 * (x : Int) + 3 * (y : Int)) % 5 = y2 := by omega
   have hy4 : (2 * (x : Int) + 3 * (y : Int)).tmod 5 = y2 := by rw [Int.tmod_eq_emod_of_nonneg (by omega)]; exact hy3
   have lp : (p : Int) < 25 := by omega
   have HV : Hid (tpl k = p ∧ tva k = v ∧ txy (k + 1) = (y, y2)) := by
    refine ⟨by rw [tpl, hH.out]; exact hp, hv, ?_⟩
    show ((txy k).2, (2 * (txy k).1 + 3 * (txy k).2) % 5) = _
    rw [hH.out, ← hy2]
   clear hp hv hq hr hy2 hvr hxy
   go_wp2_with fail
   refine (KA.out _).mono ?_
   rintro e w2 ⟨rfl, B2⟩
   have Z2 := CZ.below B2
   have C2 := CC.below B2
   have G2 := belowStep BW (by rw [← HZ.out] at BW ⊢; exact BW.size) B2
   clear KA B2 CZ CC BW
   have n0 := C2.c p hp2
   have sf := C2.f
   have sz := C2.z
   go_wp2
   go_roundg (gk - 1)
   case measure => omega
   case rel =>
    obtain ⟨g1, g2, g3⟩ := HV.out
    refine ⟨k + 1, y, y2, by omega, rfl, rfl, rfl, G2.setCell (p := ⟨c, p, none⟩) (by dsimp only; omega) _, Z2.setCell _ (by dsimp only; omega) _, C2.put p hp2 _ (fun j _ => ?_), g3⟩
    show Value.int .i64 ((if j = tpl k then tva k else trn k j : Nat) : Int) = _
    rw [g1, g2]
    by_cases e : j = p
    ·rw [if_pos e, if_pos e]
    ·rw [if_neg e, if_neg e]
  ·have hk2 : k = 24 := by omega
   subst hk2
   clear hlt
   have e : Hid ((fl 25 fun j => .int .i64 (trn 24 j)) = (fl 25 fun j => .int .i64 (tn j))) := fl_ext _ _ _ fun j hj => by show Value.int .i64 _ = .int .i64 _; rw [trn_is j hj]
   have hst := CZ.run (P := Tryd.prog) (fun j => .int .i64 (trn 24 j)) (fun _ => rfl)
   obtain ⟨l, hl⟩ : ∃ l, (fl 25 fun j => .int .i64 (trn 24 j)) = l := ⟨_, rfl⟩
   have hr := CC.range
   have hr2 := (CZ.store (fun j => .int .i64 (trn 24 j))).range
   have hlen : l.length = 25 := by rw [← hl]; exact fl_len _ _
   rw [hl] at e hst hr hr2
   clear hl
   go_wp2_with (refine wpList_load_mid rfl 92 _ rfl c 0 rfl l _ hr Tryd.underlying92 rfl (by rw [hlen]; exact size_i25) ?_)
   refine bodyPost_ret (v := .agg l.toArray) (results_mid Tryd.results44 _ _ z l _ rfl hr2 Tryd.underlying92 rfl (by rw [hlen]; exact size_i25)) rfl ⟨by rw [e.out], ?_⟩
   rw [HZ.out]
   exact below_setCells' (Nat.le_refl _) _ _ _ BW
end Go.Proofs.YtbmapdkcccdmfaaDoor
namespace Go.Proofs.YtbmapdkcccdmfaaDoor
open Go.RowKit Go.Sort

def crow (n : Nat) : Int := [1, 2, 4, 8, 16, 32, 64, 128, 113, 226, 181, 27, 54, 108, 216, 193, 243, 151, 95, 190, 13, 26, 52, 104, 208, 209, 211, 215, 223, 207, 239, 175, 47, 94, 188, 9, 18, 36, 72, 144, 81, 162, 53, 106, 212, 217, 195, 247, 159, 79, 158, 77, 154, 69, 138, 101, 202, 229, 187, 7, 14, 28, 56, 112, 224, 177, 19, 38, 76, 152, 65, 130, 117, 234, 165, 59, 118, 236, 169, 35, 70, 140, 105, 210, 213, 219, 199, 255, 143, 111, 222, 205, 235, 167, 63, 126, 252, 137, 99, 198, 253, 139, 103, 206, 237, 171, 39, 78, 156, 73, 146, 85, 170, 37, 74, 148, 89, 178, 21, 42, 84, 168, 33, 66, 132, 121, 242, 149, 91, 182, 29, 58, 116, 232, 161, 51, 102, 204, 233, 163, 55, 110, 220, 201, 227, 183, 31, 62, 124, 248, 129, 115, 230, 189, 11, 22, 44, 88, 176, 17, 34, 68, 136, 97, 194, 245, 155, 71, 142].getD n 0
theorem crow_step (n : Nat) (h : n < 168) : crow (n + 1) = if 256 ≤ 2 * crow n then bits .xor .i64 (2 * crow n) 369 else 2 * crow n :=
 (by decide +kernel : ∀ n : Fin 168, crow (n.val + 1) = if 256 ≤ 2 * crow n.val then bits .xor .i64 (2 * crow n.val) 369 else 2 * crow n.val) ⟨n, h⟩
theorem crow_bd (n : Nat) (h : n < 169) : 0 ≤ crow n ∧ crow n < 256 := (by decide +kernel : ∀ n : Fin 169, 0 ≤ crow n.val ∧ crow n.val < 256) ⟨n, h⟩
def co (i : Nat) : Nat → Int
 | 0 => 0
 | j + 1 => if crow (7 * i + j) % 2 = 1 then bits .or .u64 (co i j) ([1, 2, 8, 128, 32768, 2147483648, 9223372036854775808].getD j 0) else co i j
theorem co_is (i : Nat) (h : i < 24) : co i 7 = cn i := (by decide +kernel : ∀ i : Fin 24, co i.val 7 = cn i.val) ⟨i, h⟩

set_option maxRecDepth 20000 in
set_option maxHeartbeats 4000000 in
theorem rconst_any (i : Nat) (hi : i < 24) (w : World) :
  Calls Tryd.prog 68 #[.int .i64 i] w fun e w' => e = .returned (.int .u64 (cn i)) ∧ Below w.heap.size w w' := by
 obtain ⟨p, hp⟩ : ∃ p, 7 * i = p := ⟨_, rfl⟩
 obtain ⟨m, hm⟩ : ∃ m, p + 7 = m := ⟨_, rfl⟩
 have w1 : IntKind.i64.wrap (7 * (i : Int)) = p := by rw [IntKind.wrap_i64]; omega
 have w2 : IntKind.i64.wrap ((p : Int) + 7) = m := by rw [IntKind.wrap_i64]; omega
 have hp2 : p ≤ 161 := by omega
 have HP : Hid (7 * i = p ∧ co i 7 = cn i) := ⟨hp, co_is i hi⟩
 clear hp
 go_enter Tryd.func68, Tryd.ntmps68
 go_wp2
 go_loopg [3, 4, 5] m (fun gk a b c wr => ∃ n : Nat, ∃ r o : Int, n + gk = m ∧ a = .int .i64 r ∧ b = .int .u64 o ∧ c = .int .i64 n ∧ Below w.heap.size w wr ∧ Hid (r = crow n ∧ o = co i (n - p)))
 case atStart => exact ⟨0, 1, 0, by omega, rfl, rfl, rfl, Below.refl _ _, ⟨rfl, by rw [Nat.zero_sub]; rfl⟩⟩
 case round =>
  obtain ⟨n, r, o, hn, rfl, rfl, rfl, BW, hH⟩ := hrel
  by_cases hlt : n < m
  ·have l0 : (n : Int) < m := by omega
   have hr := crow_bd n (by omega)
   rw [← hH.out.1] at hr
   have hst := crow_step n (by omega)
   rw [← hH.out.1] at hst
   obtain ⟨r2, hr2⟩ : ∃ q, 2 * r = q := ⟨_, rfl⟩
   have hw2 : IntKind.i64.wrap r2 = r2 := by rw [IntKind.wrap_i64]; omega
   rw [hr2] at hst
   have wd : IntKind.i64.wrap ((n : Int) - p) = (n : Int) - p := by rw [IntKind.wrap_i64]; omega
   have hrm : r.tmod 2 = r % 2 := Int.tmod_eq_emod_of_nonneg hr.1
   obtain ⟨r3, hr3⟩ : ∃ q, bits .xor .i64 r2 369 = q := ⟨_, rfl⟩
   rw [hr3] at hst
   have HS : Hid (_ = _) := hst
   clear hst
   by_cases hneg : n < p
   ·have ln : ¬ (0 : Int) ≤ (n : Int) - p := by omega
    have hco : co i (n + 1 - p) = o := by rw [hH.out.2, show n + 1 - p = 0 by omega, show n - p = 0 by omega]
    have HO : Hid (_ = _) := hco
    clear hco
    by_cases hbig : 256 ≤ r2
    ·go_wp2
     go_roundg (gk - 1)
     case measure => omega
     case rel => exact ⟨n + 1, _, _, by omega, rfl, rfl, rfl, BW, ⟨by rw [HS.out, if_pos (by omega)], HO.out.symm⟩⟩
    ·go_wp2
     go_roundg (gk - 1)
     case measure => omega
     case rel => exact ⟨n + 1, _, _, by omega, rfl, rfl, rfl, BW, ⟨by rw [HS.out, if_neg (by omega)], HO.out.symm⟩⟩
   ·obtain ⟨j, hj⟩ : ∃ j, n - p = j := ⟨_, rfl⟩
    have hnj : (n : Int) - p = (j : Int) := by omega
    rw [hnj] at wd
    have lj : (0 : Int) ≤ (j : Int) := by omega
    obtain ⟨o2, ho2⟩ : ∃ q, bits .or .u64 o ([1, 2, 8, 128, 32768, 2147483648, 9223372036854775808].getD j 0) = q := ⟨_, rfl⟩
    have hco : co i (n + 1 - p) = if r % 2 = 1 then o2 else o := by
     rw [show n + 1 - p = j + 1 by omega, co, HP.out.1, show p + j = n by omega, ← hH.out.1]
     have e := hH.out.2
     rw [hj] at e
     rw [← e, ho2]
    have HO : Hid (_ = _) := hco
    clear hco
    have hj6 : j = 0 ∨ j = 1 ∨ j = 2 ∨ j = 3 ∨ j = 4 ∨ j = 5 ∨ j = 6 := by omega
    have HJ : Hid (n - p = j) := hj
    clear hj
    by_cases hodd : r % 2 = 1
    ·have HQ : Hid (co i (n + 1 - p) = o2) := by show _ = _; rw [HO.out, if_pos hodd]
     rcases hj6 with rfl | rfl | rfl | rfl | rfl | rfl | rfl
     ·simp only [List.getD_cons_zero] at ho2
      by_cases hbig : 256 ≤ r2
      ·go_wp2
       go_roundg (gk - 1)
       case measure => omega
       case rel => exact ⟨n + 1, _, _, by omega, rfl, rfl, rfl, BW, ⟨by rw [HS.out, if_pos (by omega)], HQ.out.symm⟩⟩
      ·go_wp2
       go_roundg (gk - 1)
       case measure => omega
       case rel => exact ⟨n + 1, _, _, by omega, rfl, rfl, rfl, BW, ⟨by rw [HS.out, if_neg (by omega)], HQ.out.symm⟩⟩
     ·simp only [List.getD_cons_zero, List.getD_cons_succ] at ho2
      by_cases hbig : 256 ≤ r2
      ·go_wp2
       go_roundg (gk - 1)
       case measure => omega
       case rel => exact ⟨n + 1, _, _, by omega, rfl, rfl, rfl, BW, ⟨by rw [HS.out, if_pos (by omega)], HQ.out.symm⟩⟩
      ·go_wp2
       go_roundg (gk - 1)
       case measure => omega
       case rel => exact ⟨n + 1, _, _, by omega, rfl, rfl, rfl, BW, ⟨by rw [HS.out, if_neg (by omega)], HQ.out.symm⟩⟩
     ·simp only [List.getD_cons_zero, List.getD_cons_succ] at ho2
      by_cases hbig : 256 ≤ r2
      ·go_wp2
       go_roundg (gk - 1)
       case measure => omega
       case rel => exact ⟨n + 1, _, _, by omega, rfl, rfl, rfl, BW, ⟨by rw [HS.out, if_pos (by omega)], HQ.out.symm⟩⟩
      ·go_wp2
       go_roundg (gk - 1)
       case measure => omega
       case rel => exact ⟨n + 1, _, _, by omega, rfl, rfl, rfl, BW, ⟨by rw [HS.out, if_neg (by omega)], HQ.out.symm⟩⟩
     ·simp only [List.getD_cons_zero, List.getD_cons_succ] at ho2
      by_cases hbig : 256 ≤ r2
      ·go_wp2
       go_roundg (gk - 1)
       case measure => omega
       case rel => exact ⟨n + 1, _, _, by omega, rfl, rfl, rfl, BW, ⟨by rw [HS.out, if_pos (by omega)], HQ.out.symm⟩⟩
      ·go_wp2
       go_roundg (gk - 1)
       case measure => omega
       case rel => exact ⟨n + 1, _, _, by omega, rfl, rfl, rfl, BW, ⟨by rw [HS.out, if_neg (by omega)], HQ.out.symm⟩⟩
     ·simp only [List.getD_cons_zero, List.getD_cons_succ] at ho2
      by_cases hbig : 256 ≤ r2
      ·go_wp2
       go_roundg (gk - 1)
       case measure => omega
       case rel => exact ⟨n + 1, _, _, by omega, rfl, rfl, rfl, BW, ⟨by rw [HS.out, if_pos (by omega)], HQ.out.symm⟩⟩
      ·go_wp2
       go_roundg (gk - 1)
       case measure => omega
       case rel => exact ⟨n + 1, _, _, by omega, rfl, rfl, rfl, BW, ⟨by rw [HS.out, if_neg (by omega)], HQ.out.symm⟩⟩
     ·simp only [List.getD_cons_zero, List.getD_cons_succ] at ho2
      by_cases hbig : 256 ≤ r2
      ·go_wp2
       go_roundg (gk - 1)
       case measure => omega
       case rel => exact ⟨n + 1, _, _, by omega, rfl, rfl, rfl, BW, ⟨by rw [HS.out, if_pos (by omega)], HQ.out.symm⟩⟩
      ·go_wp2
       go_roundg (gk - 1)
       case measure => omega
       case rel => exact ⟨n + 1, _, _, by omega, rfl, rfl, rfl, BW, ⟨by rw [HS.out, if_neg (by omega)], HQ.out.symm⟩⟩
     ·simp only [List.getD_cons_zero, List.getD_cons_succ] at ho2
      by_cases hbig : 256 ≤ r2
      ·go_wp2
       go_roundg (gk - 1)
       case measure => omega
       case rel => exact ⟨n + 1, _, _, by omega, rfl, rfl, rfl, BW, ⟨by rw [HS.out, if_pos (by omega)], HQ.out.symm⟩⟩
      ·go_wp2
       go_roundg (gk - 1)
       case measure => omega
       case rel => exact ⟨n + 1, _, _, by omega, rfl, rfl, rfl, BW, ⟨by rw [HS.out, if_neg (by omega)], HQ.out.symm⟩⟩
    ·have HQ : Hid (co i (n + 1 - p) = o) := by show _ = _; rw [HO.out, if_neg hodd]
     clear hj6
     by_cases hbig : 256 ≤ r2
     ·go_wp2
      go_roundg (gk - 1)
      case measure => omega
      case rel => exact ⟨n + 1, _, _, by omega, rfl, rfl, rfl, BW, ⟨by rw [HS.out, if_pos (by omega)], HQ.out.symm⟩⟩
     ·go_wp2
      go_roundg (gk - 1)
      case measure => omega
      case rel => exact ⟨n + 1, _, _, by omega, rfl, rfl, rfl, BW, ⟨by rw [HS.out, if_neg (by omega)], HQ.out.symm⟩⟩
  ·have hn2 : n = m := by omega
   subst hn2
   clear hlt
   have ho := hH.out.2
   rw [show n - p = 7 by omega, HP.out.2] at ho
   have HO : Hid (_ = _) := ho
   clear ho
   go_wp2
   go_ret
   exact ⟨by rw [← HO.out]; rfl, BW⟩
end Go.Proofs.YtbmapdkcccdmfaaDoor
namespace Go.Proofs.YtbmapdkcccdmfaaDoor
open Go.RowKit Go.Sort

abbrev La (x : Int) : Prop := 0 ≤ x ∧ x < 18446744073709551616
theorem xr_la (x y : Int) : La (xr x y) := by
 have e : xr x y = IntKind.u64.wrap (((BitVec.ofInt 64 x) ^^^ (BitVec.ofInt 64 y)).toNat : Int) := rfl
 rw [e, IntKind.wrap_u64]
 omega
theorem ofInt_wrap (b : BitVec 64) : BitVec.ofInt 64 (IntKind.u64.wrap (b.toNat : Int)) = b := by
 have h : b.toNat < 18446744073709551616 := b.isLt
 apply BitVec.eq_of_toNat_eq
 rw [BitVec.toNat_ofInt, IntKind.wrap_u64]
 omega
theorem xr_assoc (x y z : Int) : xr (xr x y) z = xr x (xr y z) := by
 have e : ∀ a b : Int, xr a b = IntKind.u64.wrap (((BitVec.ofInt 64 a) ^^^ (BitVec.ofInt 64 b)).toNat : Int) := fun _ _ => rfl
 rw [e, e x y, e x, e y z, ofInt_wrap, ofInt_wrap, BitVec.xor_assoc]
theorem xr_zero (x : Int) (h : La x) : xr 0 x = x := by
 have e : xr 0 x = IntKind.u64.wrap (((BitVec.ofInt 64 0) ^^^ (BitVec.ofInt 64 x)).toNat : Int) := rfl
 obtain ⟨n, rfl⟩ := Int.eq_ofNat_of_zero_le h.1
 have hn : n < 18446744073709551616 := by have := h.2; omega
 rw [e, BitVec.toNat_xor, k_ofInt_nat64 n hn]
 have : (BitVec.ofInt 64 0).toNat = 0 := by decide
 rw [this, Nat.zero_xor, IntKind.wrap_u64]
 omega
def cpart (f : Nat → Int) (x : Nat) : Nat → Int
 | 0 => 0
 | y + 1 => xr (cpart f x y) (f (x + 5 * y))
theorem cpart_is (f : Nat → Int) (x : Nat) (h : La (f x)) : cpart f x 5 = colOf f x := by
 show xr (xr (xr (xr (xr 0 (f (x + 5 * 0))) (f (x + 5 * 1))) (f (x + 5 * 2))) (f (x + 5 * 3))) (f (x + 5 * 4)) = _
 rw [show x + 5 * 0 = x by omega, xr_zero _ h]
 rfl
end Go.Proofs.YtbmapdkcccdmfaaDoor
namespace Go.Proofs.YtbmapdkcccdmfaaDoor
open Go.RowKit Go.Sort

theorem Fw.arr {W : World} {n N : Nat} {g : Nat → Value} (A : Array Value) (t : TypeId) (hn : W.heap.size = n) (h : ∀ j, j < N → A[j]? = some (g j)) : Fw n N g (W.alloc (.cells A t)) := by
 subst hn
 exact ⟨by simp, fun j hj => by simp [go_sem, h j hj], fun o => by simp [go_sem]⟩
theorem fl_arr (N : Nat) (g : Nat → Value) (j : Nat) (hj : j < N) : (fl N g).toArray[j]? = some (g j) := by simpa using fl_at N g j hj
theorem size_rst : (Tryd.prog.info? 94).map (·.size) = some 25 := by kernel_rfl

structure RB (w : World) (z : Nat) (f : Nat → Int) (W : World) : Prop where
 b : Below z w W
 a : Fw z 25 (fun j => .int .u64 (f j)) W
 t : Fw (z + 1) 25 (fun j => .int .i64 (tn j)) W
 r : Fw (z + 2) 25 (fun _ => .int .u64 0) W
theorem RB.below {w : World} {z : Nat} {f : Nat → Int} {W W' : World} (h : RB w z f W) (hb : Below W.heap.size W W') : RB w z f W' :=
 ⟨belowStep h.b (Nat.le_of_lt h.a.z) hb, h.a.below hb, h.t.below hb, h.r.below hb⟩
theorem RB.setCell {w : World} {z : Nat} {f : Nat → Int} {W : World} (h : RB w z f W) (p : Addr) (hp : z + 2 < p.block) (v : Value) : RB w z f (W.setCell p v) :=
 ⟨h.b.setCell (p := p) (by omega) v, h.a.setCell p (by omega) v, h.t.setCell p (by omega) v, h.r.setCell p (by omega) v⟩

def ordp (p : Nat) : Nat := 5 * (p % 5) + p / 5
theorem moved_step (f : Nat → Int) (x y : Nat) (hx : x < 5) (hy : y < 5) : movedOf (colsOf f) (pl (x + 5 * y)) = rot (xr (xr (f (x + 5 * y)) (colOf f ((x + 4) % 5))) (rot (colOf f ((x + 1) % 5)) 1)) (tn (x + 5 * y)) := by
 rw [movedOf, fr_pl _ (by omega), colsOf, byOf, show (x + 5 * y) % 5 = x by omega, xr_assoc]
theorem pl_is (x y : Nat) (hx : x < 5) (hy : y < 5) : y % 5 + 5 * ((2 * x + 3 * y) % 5) = pl (x + 5 * y) :=
 (by decide : ∀ x y : Fin 5, y.val % 5 + 5 * ((2 * x.val + 3 * y.val) % 5) = pl (x.val + 5 * y.val)) ⟨x, hx⟩ ⟨y, hy⟩
theorem ord_step (x y j : Nat) (hy : y < 5) (hj : j < 25) (h : j ≠ pl (x + 5 * y)) : (ordp (fr j) < 5 * x + (y + 1)) ↔ (ordp (fr j) < 5 * x + y) := by
 have h1 := fr_bd j hj
 constructor
 ·intro h2
  refine Nat.lt_of_le_of_ne (by omega) fun e => h ?_
  have : fr j = x + 5 * y := by unfold ordp at e; omega
  rw [← this, pl_fr j hj]
 ·omega
theorem ord_self (x y : Nat) (hx : x < 5) (hy : y < 5) : ordp (fr (pl (x + 5 * y))) < 5 * x + (y + 1) := by
 rw [fr_pl _ (by omega)]
 unfold ordp
 omega
theorem ord_all (j : Nat) (hj : j < 25) : ordp (fr j) < 25 := by
 have h1 := fr_bd j hj
 unfold ordp
 omega

theorem ord2_step (x y j : Nat) (hy : y < 5) (hj : j < 25) (h : j ≠ x + 5 * y) : (ordp j < 5 * x + (y + 1)) ↔ (ordp j < 5 * x + y) := by
 unfold ordp
 omega
theorem ord2_self (x y : Nat) (hx : x < 5) : ordp (x + 5 * y) < 5 * x + (y + 1) := by
 unfold ordp
 omega
theorem ord2_all (j : Nat) (hj : j < 25) : ordp j < 25 := by
 unfold ordp
 omega

set_option maxRecDepth 20000 in
set_option maxHeartbeats 4000000 in
theorem rround_any (f : Nat → Int) (hf : ∀ j, j < 25 → La (f j)) (k : Nat) (hk : k < 24) (w : World) :
  Calls Tryd.prog 45 #[.agg (fl 25 fun j => .int .u64 (f j)).toArray, .int .i64 k, .agg (fl 25 fun j => .int .i64 (tn j)).toArray] w fun e w' =>
   e = .returned (.agg (fl 25 fun j => .int .u64 (roundOf k f j)).toArray) ∧ Below w.heap.size w w' := by
 have HF : Hid (∀ j, j < 25 → La (f j)) := hf
 have km : IntKind.u64.max = 18446744073709551615 := by decide
 have ks : IntKind.u64.signed = false := rfl
 clear hf
 obtain ⟨A, hA⟩ : ∃ A, (fl 25 fun j => .int .u64 (f j)).toArray = A := ⟨_, rfl⟩
 obtain ⟨A2, hA2⟩ : ∃ A, (fl 25 fun j => .int .i64 (tn j)).toArray = A := ⟨_, rfl⟩
 have HA : Hid (∀ j, j < 25 → A[j]? = some (.int .u64 (f j))) := fun j hj => by rw [← hA]; exact fl_arr 25 _ j hj
 have HA2 : Hid (∀ j, j < 25 → A2[j]? = some (.int .i64 (tn j))) := fun j hj => by rw [← hA2]; exact fl_arr 25 _ j hj
 rw [hA, hA2]
 clear hA hA2
 go_enter Tryd.func45, Tryd.ntmps45
 go_wp2
 refine wpOf (fun W => RB w w.heap.size f W ∧ Fw (w.heap.size + 3) 5 (fun _ => .int .u64 0) W) ⟨⟨((((Below.refl _ w).alloc (Nat.le_refl _) _).alloc (by simp) _).alloc (by simp; omega) _).alloc (by simp; omega) _, ((Fw.arr _ _ rfl HA.out).alloc _).alloc _ |>.alloc _, ((Fw.arr _ _ (by simp) HA2.out).alloc _).alloc _, Fw.alloc (Fw.lit _ _ (by simp) rfl) _⟩, Fw.lit _ _ (by simp) rfl⟩ ?_
 rintro V ⟨RV, CV⟩
 obtain ⟨z, hz⟩ : ∃ c, w.heap.size = c := ⟨_, rfl⟩
 have HZ : Hid (w.heap.size = z) := hz
 rw [hz] at RV CV ⊢
 clear hz HA HA2
 rw [show z + 1 + 1 + 1 = z + 3 by omega, show z + 1 + 1 = z + 2 by omega]
 obtain ⟨c, hc⟩ : ∃ c, z + 3 = c := ⟨_, rfl⟩
 rw [hc] at CV ⊢
 go_loopg [8] 5 (fun gk i wr => ∃ x : Nat, ∃ h : Nat → Int, x + gk = 5 ∧ i = .int .i64 x ∧ RB w z f wr ∧ Fw c 5 (fun j => .int .u64 (h j)) wr ∧ Hid (∀ j, j < 5 → h j = if j < x then colOf f j else 0))
 case atStart => exact ⟨0, fun _ => 0, rfl, rfl, RV, CV, fun j _ => by rw [if_neg (by omega)]⟩
 case round =>
  clear RV CV
  obtain ⟨x, h, hx, rfl, RW, CW, hH⟩ := hrel
  by_cases hlt : x < 5
  ·have l0 : (x : Int) < 5 := by omega
   go_wp2
   go_loopg [9] 5 (fun gk i wr => ∃ y : Nat, ∃ h : Nat → Int, y + gk = 5 ∧ i = .int .i64 y ∧ RB w z f wr ∧ Fw c 5 (fun j => .int .u64 (h j)) wr ∧ Hid (∀ j, j < 5 → h j = if j < x then colOf f j else if j = x then cpart f x y else 0))
   case atStart => exact ⟨0, h, rfl, rfl, RW, CW, fun j hj => by rw [hH.out j hj]; by_cases q : j < x <;> simp [q, cpart]⟩
   case round =>
    clear RW CW hH
    obtain ⟨y, h, hy, rfl, RW, CW, hH⟩ := hrel
    by_cases hly : y < 5
    ·have l1 : (y : Int) < 5 := by omega
     have KA : Hid (∀ w : World, _) := fun w : World => rat_any x y (by omega) (by omega) w
     obtain ⟨p, hp, hp2⟩ : ∃ p, x % 5 + 5 * (y % 5) = p ∧ p < 25 := ⟨_, rfl, by omega⟩
     rw [hp] at KA
     have lp : (p : Int) < 25 := by omega
     have hpx : x + 5 * y = p := by omega
     have m0 := CW.c x hlt
     have m1 := RW.a.c p hp2
     obtain ⟨v0, hv0⟩ : ∃ v, h x = v := ⟨_, rfl⟩
     obtain ⟨v1, hv1⟩ : ∃ v, f p = v := ⟨_, rfl⟩
     rw [hv0] at m0
     rw [hv1] at m1
     have HV : Hid (cpart f x (y + 1) = bits .xor .u64 v0 v1) := by
      show xr (cpart f x y) (f (x + 5 * y)) = _
      have := hH.out x hlt
      rw [if_neg (by omega), if_pos rfl] at this
      rw [← this, hv0, hpx, hv1]
     clear hp hpx hv0 hv1
     go_wp2
     have k0 := cell_regrown m0
     have k1 := cell_regrown m1
     have cA := inClass (w := wr) KA.out
     refine region_tail 10 (by kernel_rfl) (by kernel_rfl) ?_
     simp only [List.take_succ_cons, List.take_zero, List.drop_succ_cons, List.drop_zero]
     iterate 6 (quiet_step (fail))
     quiet_step (exact cA _ _)
     iterate 3 (quiet_step (fail))
     refine wpQuiet_nil ?_
     intro w8 hw8
     have hb8 : Below wr.heap.size wr w8 := by
      obtain ⟨p, rfl⟩ := hw8
      exact below_regrown _ _ _
     have R8 := RW.below hb8
     have C8 := CW.below hb8
     clear hw8 hb8 k0 k1 cA KA RW CW m0 m1
     have n0 := C8.c x hlt
     have sf := C8.f
     have sz := C8.z
     go_wp2
     go_roundg (gk - 1)
     case measure => omega
     case rel =>
      refine ⟨y + 1, fun j => if j = x then bits .xor .u64 v0 v1 else h j, by omega, rfl, R8.setCell ⟨c, x, none⟩ (by dsimp only; omega) _, C8.put x hlt _ (fun j _ => by by_cases e : j = x <;> simp [e]), ?_⟩
      intro j hj
      have hJ := hH.out j hj
      show (if j = x then bits .xor .u64 v0 v1 else h j) = _
      by_cases e : j = x
      ·rw [if_pos e, if_neg (by omega), if_pos e, HV.out]
      ·rw [if_neg e, hJ, if_neg e, if_neg e]
    ·have hy2 : y = 5 := by omega
     subst hy2
     clear hly
     go_wp2
     go_roundg (4 - x)
     case measure => omega
     case rel =>
      refine ⟨x + 1, h, by omega, rfl, RW, CW, fun j hj => ?_⟩
      rw [hH.out j hj]
      by_cases q : j < x
      ·rw [if_pos q, if_pos (by omega)]
      ·rw [if_neg q]
       by_cases e : j = x
       ·rw [if_pos e, if_pos (by omega), e, cpart_is f x (HF.out x (by omega))]
       ·rw [if_neg e, if_neg (by omega)]
  ·have hx2 : x = 5 := by omega
   subst hx2
   clear hlt
   have C5 : Fw c 5 (fun j => .int .u64 (colOf f j)) wr := CW.ext fun j hj => by show Value.int .u64 _ = .int .u64 _; rw [hH.out j hj, if_pos hj]
   clear CW hH hx h
   go_wp2
   refine wpOf (fun W => RB w z f W ∧ Fw c 5 (fun j => .int .u64 (colOf f j)) W ∧ Fw wr.heap.size 25 (fun _ => .int .u64 0) W) ⟨RW.below ((Below.refl _ wr).alloc (Nat.le_refl _) _), C5.alloc _, Fw.lit _ _ rfl rfl⟩ ?_
   rintro V2 ⟨RV, CV, DV⟩
   have hdc := C5.z
   obtain ⟨d, hd⟩ : ∃ d, wr.heap.size = d := ⟨_, rfl⟩
   rw [hd] at hdc DV ⊢
   clear hd C5 RW
   go_loopg [11] 5 (fun gk i wr => ∃ x : Nat, ∃ g : Nat → Int, x + gk = 5 ∧ i = .int .i64 x ∧ RB w z f wr ∧ Fw c 5 (fun j => .int .u64 (colOf f j)) wr ∧ Fw d 25 (fun j => .int .u64 (g j)) wr ∧ Hid (∀ j, j < 25 → g j = if ordp (fr j) < 5 * x then movedOf (colsOf f) j else 0))
   case atStart => exact ⟨0, fun _ => 0, rfl, rfl, RV, CV, DV, fun j _ => by rw [if_neg (by omega)]⟩
   case round =>
    clear RV CV DV
    obtain ⟨x, g, hx, rfl, RW, CW, DW, hH⟩ := hrel
    by_cases hlt : x < 5
    ·have l0 : (x : Int) < 5 := by omega
     go_wp2
     go_loopg [12] 5 (fun gk i wr => ∃ y : Nat, ∃ g : Nat → Int, y + gk = 5 ∧ i = .int .i64 y ∧ RB w z f wr ∧ Fw c 5 (fun j => .int .u64 (colOf f j)) wr ∧ Fw d 25 (fun j => .int .u64 (g j)) wr ∧ Hid (∀ j, j < 25 → g j = if ordp (fr j) < 5 * x + y then movedOf (colsOf f) j else 0))
     case atStart => exact ⟨0, g, rfl, rfl, RW, CW, DW, hH⟩
     case round =>
      clear RW CW DW hH g
      obtain ⟨y, g, hy, rfl, RW, CW, DW, hH⟩ := hrel
      by_cases hly : y < 5
      ·have l1 : (y : Int) < 5 := by omega
       have KA : Hid (∀ w : World, _) := fun w : World => rat_any x y (by omega) (by omega) w
       have KB : Hid (∀ w : World, Calls Tryd.prog 66 #[.int .i64 y, .int .i64 (2 * (x : Int) + 3 * (y : Int))] w fun e w' => e = .returned (.int .i64 ((y % 5 + 5 * ((2 * x + 3 * y) % 5) : Nat) : Int)) ∧ Below w.heap.size w w') := fun w : World => by
        have e : 2 * (x : Int) + 3 * (y : Int) = ((2 * x + 3 * y : Nat) : Int) := by omega
        rw [e]
        exact rat_any y (2 * x + 3 * y) (by omega) (by omega) w
       have HV := moved_step f x y hlt hly
       have HO := ord_self x y hlt hly
       have HS : ∀ j, j < 25 → j ≠ pl (x + 5 * y) → ((ordp (fr j) < 5 * x + (y + 1)) ↔ (ordp (fr j) < 5 * x + y)) := fun j hj hne => ord_step x y j hly hj hne
       rw [pl_is x y hlt hly] at KB
       have hpl := pl_bd (x + 5 * y) (by omega)
       have htn := tn_bd (x + 5 * y) (by omega)
       obtain ⟨p, hp, hp2⟩ : ∃ p, x + 5 * y = p ∧ p < 25 := ⟨_, rfl, by omega⟩
       rw [show x % 5 + 5 * (y % 5) = p by omega] at KA
       rw [hp] at KB HV HO HS hpl htn
       obtain ⟨q, hq⟩ : ∃ q, pl p = q := ⟨_, rfl⟩
       obtain ⟨u, hu⟩ : ∃ q, tn p = q := ⟨_, rfl⟩
       obtain ⟨x4, hx4⟩ : ∃ q : Nat, x + 4 = q := ⟨_, rfl⟩
       obtain ⟨x1, hx1⟩ : ∃ q : Nat, x + 1 = q := ⟨_, rfl⟩
       obtain ⟨r4, hr4⟩ : ∃ q : Nat, x4 % 5 = q := ⟨_, rfl⟩
       obtain ⟨r1, hr1⟩ : ∃ q : Nat, x1 % 5 = q := ⟨_, rfl⟩
       rw [hx4, hx1, hr4, hr1] at HV
       rw [hq] at KB HV HO HS hpl
       rw [hu] at HV htn
       have w2 : IntKind.i64.wrap ((x : Int) + 4) = x4 := by rw [IntKind.wrap_i64]; omega
       have w3 : IntKind.i64.wrap ((x : Int) + 1) = x1 := by rw [IntKind.wrap_i64]; omega
       have w4 : (x4 : Int).tmod 5 = r4 := by rw [Int.tmod_eq_emod_of_nonneg (by omega)]; omega
       have w5 : (x1 : Int).tmod 5 = r1 := by rw [Int.tmod_eq_emod_of_nonneg (by omega)]; omega
       have w4' : IntKind.i64.wrap (r4 : Int) = r4 := by rw [IntKind.wrap_i64]; omega
       have w5' : IntKind.i64.wrap (r1 : Int) = r1 := by rw [IntKind.wrap_i64]; omega
       have l2 : (r4 : Int) < 5 := by omega
       have l3 : (r1 : Int) < 5 := by omega
       have l4 : (p : Int) < 25 := by omega
       have l5 : (q : Int) < 25 := by omega
       have m0 := RW.a.c p hp2
       have m4 := CW.c r4 (by omega)
       have m1 := CW.c r1 (by omega)
       have HC1 : La (colOf f r1) := xr_la _ _
       obtain ⟨v0, hv0⟩ : ∃ v, f p = v := ⟨_, rfl⟩
       obtain ⟨c4, hc4⟩ : ∃ q, colOf f r4 = q := ⟨_, rfl⟩
       obtain ⟨c1, hc1⟩ : ∃ q, colOf f r1 = q := ⟨_, rfl⟩
       obtain ⟨c2, hc2⟩ : ∃ q, rot c1 1 = q := ⟨_, rfl⟩
       rw [hv0] at m0
       rw [hc4] at m4
       rw [hc1] at m1 HC1
       rw [hv0, hc4, hc1, hc2] at HV
       have KL : Hid (∀ w : World, Calls Tryd.prog 67 #[.int .u64 c1, .int .i64 1] w fun e w' => e = .returned (.int .u64 (rot c1 1)) ∧ Below w.heap.size w w') := fun w => rleft_any c1 HC1 1 (by omega) w
       rw [hc2] at KL
       have HVL : La (xr (xr v0 c4) c2) := xr_la _ _
       obtain ⟨v, hv⟩ : ∃ v, bits .xor .u64 (bits .xor .u64 v0 c4) c2 = v := ⟨_, rfl⟩
       have HV2 : Hid (movedOf (colsOf f) q = rot v u) := by rw [← hv]; exact HV
       have HVL2 : La v := by rw [← hv]; exact HVL
       have KM : Hid (∀ w : World, Calls Tryd.prog 67 #[.int .u64 v, .int .i64 u] w fun e w' => e = .returned (.int .u64 (rot v u)) ∧ Below w.heap.size w w') := fun w => rleft_any v HVL2 u htn w
       obtain ⟨rv, hrv⟩ : ∃ q, rot v u = q := ⟨_, rfl⟩
       rw [hrv] at KM HV2
       have HS2 : Hid (∀ j, j < 25 → j ≠ q → ((ordp (fr j) < 5 * x + (y + 1)) ↔ (ordp (fr j) < 5 * x + y))) := HS
       have HO2 : Hid (ordp (fr q) < 5 * x + (y + 1)) := HO
       have HU : Hid (tn p = u) := hu
       have HW : Hid (bits .xor .u64 (bits .xor .u64 v0 c4) c2 = v) := hv
       clear hv HV HVL HVL2 hc1 hc2 hc4 hv0 HC1 HS HO hu hrv hq hr4 hr1 hx4 hx1 htn hp
       go_wp2
       have k0 := cell_regrown m0
       have k4 := cell_regrown m4
       have k1 := cell_regrown m1
       have cA := inClass (w := wr) KA.out
       have cL := inClass (w := wr) KL.out
       refine wp_region_quiet_below (by kernel_rfl) (by kernel_rfl) ?_
       iterate 2 (quiet_step (fail))
       quiet_step (exact cA _ _)
       iterate 13 (quiet_step (fail))
       quiet_step (exact cL _ _)
       iterate 2 (quiet_step (fail))
       refine wpQuiet_nil ?_
       intro w8 hw8
       have hb8 : Below wr.heap.size wr w8 := by
        obtain ⟨p, rfl⟩ := hw8
        exact below_regrown _ _ _
       have R8 := RW.below hb8
       have C8 := CW.below hb8
       have D8 := DW.below hb8
       clear hw8 hb8 k0 k4 k1 cA cL KL RW CW DW m0 m4 m1
       rw [HW.out]
       go_wp2_with fail
       refine (KB.out _).mono ?_
       rintro e w2 ⟨rfl, B2⟩
       have E2 := R8.below B2
       have C2 := C8.below B2
       have D2 := D8.below B2
       clear KB B2 R8 C8 D8
       go_wp2_with fail
       refine (KA.out _).mono ?_
       rintro e w3 ⟨rfl, B3⟩
       have E3 := E2.below B3
       have C3 := C2.below B3
       have D3 := D2.below B3
       clear KA B3 E2 C2 D2
       have nt := E3.t.c p hp2
       rw [HU.out] at nt
       go_wp2_with fail
       refine (KM.out _).mono ?_
       rintro e w4 ⟨rfl, B4⟩
       have E4 := E3.below B4
       have C4 := C3.below B4
       have D4 := D3.below B4
       clear KM B4 E3 C3 D3 nt
       have n0 := D4.c q hpl
       have sf := D4.f
       have sz := D4.z
       go_wp2
       go_roundg (gk - 1)
       case measure => omega
       case rel =>
        refine ⟨y + 1, fun j => if j = q then rv else g j, by omega, rfl, E4.setCell ⟨d, q, none⟩ (by dsimp only; omega) _, C4.setCell ⟨d, q, none⟩ (by dsimp only; omega) _, D4.put q hpl _ (fun j _ => by by_cases e : j = q <;> simp [e]), ?_⟩
        intro j hj
        show (if j = q then rv else g j) = _
        by_cases e : j = q
        ·rw [if_pos e, e, if_pos HO2.out, HV2.out]
        ·rw [if_neg e, hH.out j hj]
         by_cases e2 : ordp (fr j) < 5 * x + y
         ·rw [if_pos e2, if_pos ((HS2.out j hj e).2 e2)]
         ·rw [if_neg e2, if_neg fun e3 => e2 ((HS2.out j hj e).1 e3)]
      ·have hy2 : y = 5 := by omega
       subst hy2
       clear hly
       go_wp2
       go_roundg (4 - x)
       case measure => omega
       case rel => exact ⟨x + 1, g, by omega, rfl, RW, CW, DW, fun j hj => by rw [hH.out j hj, show 5 * (x + 1) = 5 * x + 5 by omega]⟩
    ·have hx2 : x = 5 := by omega
     subst hx2
     clear hlt
     have D5 : Fw d 25 (fun j => .int .u64 (movedOf (colsOf f) j)) wr := DW.ext fun j hj => by show Value.int .u64 _ = .int .u64 _; rw [hH.out j hj, if_pos (ord_all j hj)]
     clear DW hH hx g CW
     have KC : Hid (∀ w : World, _) := fun w : World => rconst_any k hk w
     have HR : Hid ((fl 25 fun j => .int .u64 (roundOf k f j)) = fl 25 fun j => .int .u64 (if j = 0 then xr (rowsOf (movedOf (colsOf f)) 0) (cn k) else rowsOf (movedOf (colsOf f)) j)) := rfl
     obtain ⟨G, hG⟩ : ∃ G, movedOf (colsOf f) = G := ⟨_, rfl⟩
     rw [hG] at D5 HR
     clear hG
     go_wp2
     refine wpOf (fun W => RB w z f W ∧ Fw d 25 (fun j => .int .u64 (G j)) W ∧ Fw wr.heap.size 25 (fun _ => .int .u64 0) W) ⟨RW.below ((Below.refl _ wr).alloc (Nat.le_refl _) _), D5.alloc _, Fw.lit _ _ rfl rfl⟩ ?_
     rintro V3 ⟨RV, DV, OV⟩
     have hod := D5.z
     obtain ⟨o, ho⟩ : ∃ d, wr.heap.size = d := ⟨_, rfl⟩
     rw [ho] at hod OV ⊢
     clear ho D5 RW
     go_loopg [15] 5 (fun gk i wr => ∃ x : Nat, ∃ h : Nat → Int, x + gk = 5 ∧ i = .int .i64 x ∧ RB w z f wr ∧ Fw d 25 (fun j => .int .u64 (G j)) wr ∧ Fw o 25 (fun j => .int .u64 (h j)) wr ∧ Hid (∀ j, j < 25 → h j = if ordp j < 5 * x then rowsOf G j else 0))
     case atStart => exact ⟨0, fun _ => 0, rfl, rfl, RV, DV, OV, fun j _ => by rw [if_neg (by omega)]⟩
     case round =>
      clear RV DV OV
      obtain ⟨x, h, hx, rfl, RW, DW, OW, hH⟩ := hrel
      by_cases hlt : x < 5
      ·have l0 : (x : Int) < 5 := by omega
       go_wp2
       go_loopg [16] 5 (fun gk i wr => ∃ y : Nat, ∃ h : Nat → Int, y + gk = 5 ∧ i = .int .i64 y ∧ RB w z f wr ∧ Fw d 25 (fun j => .int .u64 (G j)) wr ∧ Fw o 25 (fun j => .int .u64 (h j)) wr ∧ Hid (∀ j, j < 25 → h j = if ordp j < 5 * x + y then rowsOf G j else 0))
       case atStart => exact ⟨0, h, rfl, rfl, RW, DW, OW, hH⟩
       case round =>
        clear RW DW OW hH h
        obtain ⟨y, h, hy, rfl, RW, DW, OW, hH⟩ := hrel
        by_cases hly : y < 5
        ·have l1 : (y : Int) < 5 := by omega
         obtain ⟨x1, hx1⟩ : ∃ q : Nat, x + 1 = q := ⟨_, rfl⟩
         obtain ⟨x2, hx2⟩ : ∃ q : Nat, x + 2 = q := ⟨_, rfl⟩
         have w1 : IntKind.i64.wrap ((x : Int) + 1) = x1 := by rw [IntKind.wrap_i64]; omega
         have w2 : IntKind.i64.wrap ((x : Int) + 2) = x2 := by rw [IntKind.wrap_i64]; omega
         have KA : Hid (∀ w : World, _) := fun w : World => rat_any x y (by omega) (by omega) w
         have KB : Hid (∀ w : World, _) := fun w : World => rat_any x1 y (by omega) (by omega) w
         have KD : Hid (∀ w : World, _) := fun w : World => rat_any x2 y (by omega) (by omega) w
         have HV := rows_at G y x hlt
         rw [hx1, hx2] at HV
         obtain ⟨p, hp, hp2⟩ : ∃ p, x + 5 * y = p ∧ p < 25 := ⟨_, rfl, by omega⟩
         obtain ⟨p1, hp1, hp12⟩ : ∃ p, x1 % 5 + 5 * y = p ∧ p < 25 := ⟨_, rfl, by omega⟩
         obtain ⟨p3, hp3, hp32⟩ : ∃ p, x2 % 5 + 5 * y = p ∧ p < 25 := ⟨_, rfl, by omega⟩
         rw [show x % 5 + 5 * (y % 5) = p by omega] at KA
         rw [show x1 % 5 + 5 * (y % 5) = p1 by omega] at KB
         rw [show x2 % 5 + 5 * (y % 5) = p3 by omega] at KD
         rw [show 5 * y + x = p by omega, show 5 * y + x1 % 5 = p1 by omega, show 5 * y + x2 % 5 = p3 by omega] at HV
         have HO2 : Hid (ordp p < 5 * x + (y + 1)) := by rw [← hp]; exact ord2_self x y hlt
         have HS2 : Hid (∀ j, j < 25 → j ≠ p → ((ordp j < 5 * x + (y + 1)) ↔ (ordp j < 5 * x + y))) := by rw [← hp]; exact fun j hj hne => ord2_step x y j hly hj hne
         have l2 : (p : Int) < 25 := by omega
         have l3 : (p1 : Int) < 25 := by omega
         have l4 : (p3 : Int) < 25 := by omega
         have m0 := DW.c p hp2
         have m1 := DW.c p1 hp12
         have m2 := DW.c p3 hp32
         obtain ⟨v0, hv0⟩ : ∃ v, G p = v := ⟨_, rfl⟩
         obtain ⟨v1, hv1⟩ : ∃ v, G p1 = v := ⟨_, rfl⟩
         obtain ⟨v2, hv2⟩ : ∃ v, G p3 = v := ⟨_, rfl⟩
         rw [hv0] at m0
         rw [hv1] at m1
         rw [hv2] at m2
         rw [hv0, hv1, hv2] at HV
         have HV2 : Hid (rowsOf G p = xr v0 (an (nt v1) v2)) := HV
         clear HV hv0 hv1 hv2 hp hp1 hp3 hx1 hx2
         go_wp2
         have k0 := cell_regrown m0
         have k1 := cell_regrown m1
         have k2 := cell_regrown m2
         have cA := inClass (w := wr) KA.out
         have cB := inClass (w := wr) KB.out
         have cD := inClass (w := wr) KD.out
         refine region_tail 23 (by kernel_rfl) (by kernel_rfl) ?_
         simp only [List.take_succ_cons, List.take_zero, List.drop_succ_cons, List.drop_zero]
         iterate 2 (quiet_step (fail))
         quiet_step (exact cA _ _)
         iterate 2 (quiet_step (fail))
         quiet_step (exact cA _ _)
         iterate 5 (quiet_step (fail))
         quiet_step (exact cB _ _)
         iterate 6 (quiet_step (fail))
         quiet_step (exact cD _ _)
         iterate 4 (quiet_step (fail))
         refine wpQuiet_nil ?_
         intro w8 hw8
         have hb8 : Below wr.heap.size wr w8 := by
          obtain ⟨p, rfl⟩ := hw8
          exact below_regrown _ _ _
         have E8 := RW.below hb8
         have D8 := DW.below hb8
         have O8 := OW.below hb8
         clear hw8 hb8 k0 k1 k2 cA cB cD KA KB KD RW DW OW m0 m1 m2
         have n0 := O8.c p hp2
         have sf := O8.f
         have sz := O8.z
         go_wp2
         go_roundg (gk - 1)
         case measure => omega
         case rel =>
          refine ⟨y + 1, fun j => if j = p then xr v0 (an (nt v1) v2) else h j, by omega, rfl, E8.setCell ⟨o, p, none⟩ (by dsimp only; omega) _, D8.setCell ⟨o, p, none⟩ (by dsimp only; omega) _, O8.put p hp2 _ (fun j _ => by by_cases e : j = p <;> simp [e]), ?_⟩
          intro j hj
          show (if j = p then xr v0 (an (nt v1) v2) else h j) = _
          by_cases e : j = p
          ·rw [if_pos e, e, if_pos HO2.out, HV2.out]
          ·rw [if_neg e, hH.out j hj]
           by_cases e2 : ordp j < 5 * x + y
           ·rw [if_pos e2, if_pos ((HS2.out j hj e).2 e2)]
           ·rw [if_neg e2, if_neg fun e3 => e2 ((HS2.out j hj e).1 e3)]
        ·have hy2 : y = 5 := by omega
         subst hy2
         clear hly
         go_wp2
         go_roundg (4 - x)
         case measure => omega
         case rel => exact ⟨x + 1, h, by omega, rfl, RW, DW, OW, fun j hj => by rw [hH.out j hj, show 5 * (x + 1) = 5 * x + 5 by omega]⟩
      ·have hx2 : x = 5 := by omega
       subst hx2
       clear hlt
       have O5 : Fw o 25 (fun j => .int .u64 (rowsOf G j)) wr := OW.ext fun j hj => by show Value.int .u64 _ = .int .u64 _; rw [hH.out j hj, if_pos (ord2_all j hj)]
       clear DW hH hx h OW
       have m0 := O5.c 0 (by omega)
       obtain ⟨v0, hv0⟩ : ∃ v, rowsOf G 0 = v := ⟨_, rfl⟩
       rw [hv0] at m0 HR
       go_wp2
       have k0 := cell_regrown m0
       have cC := inClass (w := wr) KC.out
       refine region_tail 5 (by kernel_rfl) (by kernel_rfl) ?_
       simp only [List.take_succ_cons, List.take_zero, List.drop_succ_cons, List.drop_zero]
       iterate 3 (quiet_step (fail))
       quiet_step (exact cC _ _)
       quiet_step (fail)
       refine wpQuiet_nil ?_
       intro w8 hw8
       have hb8 : Below wr.heap.size wr w8 := by
        obtain ⟨p, rfl⟩ := hw8
        exact below_regrown _ _ _
       have E8 := RW.below hb8
       have O8 := O5.below hb8
       clear hw8 hb8 k0 cC KC RW O5 m0
       obtain ⟨v, hv⟩ : ∃ v, bits .xor .u64 v0 (cn k) = v := ⟨_, rfl⟩
       have hv2 : xr v0 (cn k) = v := hv
       rw [hv2] at HR
       rw [hv]
       clear hv hv2 hv0
       have n0 := O8.c 0 (by omega)
       have sf := O8.f
       have sz := O8.z
       have E9 := E8.setCell ⟨o, 0, none⟩ (by dsimp only; omega) (.int .u64 v)
       have O9 : Fw o 25 (fun j => .int .u64 (if j = 0 then v else rowsOf G j)) (w8.setCell ⟨o, 0, none⟩ (.int .u64 v)) := O8.put 0 (by omega) _ (fun j _ => by by_cases e : j = 0 <;> simp [e])
       have hst := E9.r.run (P := Tryd.prog) (fun j => .int .u64 (if j = 0 then v else rowsOf G j)) (fun _ => rfl)
       have hr := O9.range
       have hr2 := (E9.r.store (fun j => .int .u64 (if j = 0 then v else rowsOf G j))).range
       have HB : Hid (Below z w (w8.setCell ⟨o, 0, none⟩ (.int .u64 v))) := E9.b
       obtain ⟨l, hl⟩ : ∃ l, (fl 25 fun j => .int .u64 (if j = 0 then v else rowsOf G j)) = l := ⟨_, rfl⟩
       have hlen : l.length = 25 := by rw [← hl]; exact fl_len _ _
       rw [hl] at HR hst hr hr2
       clear hl E8 O8 E9 O9
       go_wp2_with (refine wpList_load_mid rfl 94 _ rfl o 0 rfl l _ hr Tryd.underlying94 rfl (by rw [hlen]; exact size_rst) ?_)
       refine bodyPost_ret (v := .agg l.toArray) (results_mid Tryd.results45 _ _ (z + 2) l _ rfl hr2 Tryd.underlying94 rfl (by rw [hlen]; exact size_rst)) rfl ⟨by rw [HR.out], ?_⟩
       rw [HZ.out]
       exact below_setCells' (by omega) _ _ _ HB.out
end Go.Proofs.YtbmapdkcccdmfaaDoor
